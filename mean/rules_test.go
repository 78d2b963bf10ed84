package mean_test

import (
	"math"
	"slices"
	"strings"
	"testing"

	"stileward/api"
	"stileward/form"
	"stileward/mean"
	"stileward/sample"
)

// P1: whatever the arguments, all functions return normally and do what the words say.
func FuzzMean(f *testing.F) {
	f.Add(1, "\x00\x00\x00", "", "\x01", 0)
	f.Add(3, "\x02\x05\x00\x06\x00\x00\x09\x01\x00", "\x00\x01\x02", "\x00\x01\x00", 2)
	f.Add(2, "\x02\x03\x00\x04\x00\x00\x08\x01\x01\x05\x02\x02\x09\x03\x03\x03\x04\x00", "\x01\x01\x00", "\x01\x01\x01\x01\x01\x01", 1)
	f.Add(6, "\x02\x3f\x00\x03\x00\x00\x07\x01\x00", "\x05\x00", "", 5)
	f.Add(0, "", "", "", -1)
	f.Add(-1, "\xff\xff\xff", "\xff", "\x00", 6)
	f.Add(7, "\x0a\x00\x00", "\x06", "\x00", math.MaxInt)
	f.Add(1, "\x03\x00\x00\x02\x02\x00", "\x01", "\x00\x00", math.MinInt)
	f.Add(math.MaxInt, "\x02\x01\x01", "\x00", "\x00", 0)
	f.Fuzz(func(t *testing.T, letters int, nodes, text, then string, a int) {
		checkAll(t, letters, sample.Form(nodes), sample.Word(text))
		values := make([]bool, len(then))
		for i := range values {
			values[i] = then[i]&1 == 1
		}
		isFormula := form.Check(6, sample.Form(nodes)) == nil
		got := mean.Ahead(sample.Form(nodes), values, a)
		if isGood := isFormula && len(values) == len(nodes)/3 && a >= 0 && a < 6; (len(got) > 0) != isGood {
			t.Errorf("Ahead(%v, %v, %d) = %v", sample.Form(nodes), values, a, got)
		}
	})
}

// checkAll demands of all functions what the words say.
func checkAll(t *testing.T, letters int, f []api.Node, w []int) {
	t.Helper()
	checkValues(t, letters, f, w)
	checkPlain(t, letters, f)
}

// errorsOf returns the errors of all functions.
func errorsOf(letters int, f []api.Node, w []int) []error {
	_, holds := mean.Holds(letters, f, w)
	_, values := mean.Values(letters, f, w)
	_, made := mean.Plain(letters, f)
	return []error{holds, values, made}
}

// P2, P4: all functions leave their arguments and what is behind them as they are, and read nothing there.
func TestArgumentsAreLeft(t *testing.T) {
	words := sample.Checks()
	for i, c := range sample.FormChecks() {
		f, intactF := sample.RoomyForm(c.Form)
		w, intactW := sample.Roomy(words[i%len(words)].Word)
		checkAll(t, c.Letters, f, w)
		checkAll(t, c.Letters, f, nil)
		if !intactF() || !intactW() {
			t.Errorf("%s: an argument, or memory behind it, is changed", c.Name)
		}
	}
}

// P2, P4: Ahead leaves the values that it is given and what is behind them as they are, and reads nothing there.
func TestValuesAreLeft(t *testing.T) {
	for seed := range uint64(200) {
		f := sample.MixedForm(seed, 3, 1+int(seed)%40)
		memory := append(mean.End(f), make([]bool, 50)...)
		before := slices.Clone(memory)
		got := mean.Ahead(f, memory[:len(f)], int(seed)%3)
		want, err := mean.Values(3, f, []int{int(seed) % 3})
		if !slices.Equal(got, want) || err != nil || !slices.Equal(memory, before) {
			t.Errorf("Ahead(%v) = %v, want %v, %v, and the values became %v", f, got, want, err, memory)
		}
		for _, given := range [][]bool{memory[:len(f)-1], memory[:len(f)+1]} {
			if got := mean.Ahead(f, given, 0); len(got) != 0 {
				t.Errorf("Ahead of %d nodes and %d values = %v", len(f), len(given), got)
			}
		}
	}
}

// P2: lists of values share no memory with each other or with arguments, not even behind their ends.
func TestValuesAreNew(t *testing.T) {
	for seed := range uint64(200) {
		f := sample.MixedForm(seed, 3, 1+int(seed)%40)
		then := mean.End(f)
		makers := []func() []bool{
			func() []bool { return mean.End(f) },
			func() []bool { return mean.Ahead(f, then, 1) },
			func() []bool {
				values, err := mean.Values(3, f, []int{1, 0, 2})
				if err != nil {
					t.Errorf("Values(3, %v) = %v", f, err)
				}
				return values
			},
		}
		for i, make := range makers {
			thenBefore := slices.Clone(then)
			first := make()
			want := slices.Clone(first)
			intact := sample.SpoilBools(first, true)
			again := make()
			if !slices.Equal(again, want) {
				t.Errorf("list %d of %v is %v, and then %v", i, f, want, again)
			}
			if sample.SpoilBools(again, false); !intact() || !slices.Equal(then, thenBefore) {
				t.Errorf("list %d of %v shares memory", i, f)
			}
		}
	}
}

// P2: results of Plain share no memory with arguments or with each other, not even behind
// their ends, and so they do not change when the argument does later.
func TestPlainIsNew(t *testing.T) {
	forms := [][]api.Node{sample.Stacked(40, sample.Node(2, 1, 0), 7), sample.Stacked(1, sample.Node(0, 0, 0), 3)}
	for seed := range uint64(200) {
		forms = append(forms, sample.MixedTree(sample.Below(seed), 3, 1+int(seed)%20).Nodes())
	}
	for _, given := range forms {
		f, left := sample.RoomyForm(given)
		first, err := mean.Plain(3, f)
		want := slices.Clone(first)
		intact := sample.SpoilForm(first, -100)
		again, wrong := mean.Plain(3, f)
		if !slices.Equal(again, want) || err != nil || wrong != nil {
			t.Errorf("Plain(3, %v) = %v, %v, and then %v, %v", given, want, err, again, wrong)
		}
		intactAgain := sample.SpoilForm(again, -201)
		isLeft := left()
		sample.SpoilForm(f, -302)
		if !intact() || !intactAgain() || !isLeft {
			t.Errorf("Plain(3, %v) shares memory", given)
		}
	}
}

// P2: results depend on no earlier call, be it a good or a bad one.
func TestRepeats(t *testing.T) {
	for range 3 {
		for _, c := range sample.FormChecks() {
			checkAll(t, c.Letters, c.Form, []int{0})
			checkAll(t, 2, sample.Stacked(40, sample.Node(2, 3, 0), 8), sample.Repeated(81, 0))
			checkAll(t, 2, sample.Stacked(4, sample.Node(2, 3, 0), 8), []int{1, 0})
		}
	}
}

// P3: each error is, or wraps, the Errno that it stands for, and no other one.
func TestErrorsAreErrnos(t *testing.T) {
	for _, c := range sample.FormChecks() {
		for i, err := range errorsOf(c.Letters, c.Form, nil) {
			if c.Want != api.OK && !sample.OnlyErrno(err, c.Want) {
				t.Errorf("%s: error %d is %v, not %v alone", c.Name, i, err, c.Want)
			}
		}
	}
	for _, c := range sample.Checks() {
		for i, err := range errorsOf(c.Letters, []api.Node{{Kind: 0}}, c.Word)[:2] {
			if c.Want != api.OK && !sample.OnlyErrno(err, c.Want) {
				t.Errorf("%s: error %d is %v, not %v alone", c.Name, i, err, c.Want)
			}
		}
	}
	if _, err := mean.Plain(2, sample.Stacked(40, sample.Node(2, 3, 0), 4)); !sample.OnlyErrno(err, api.ErrFull) {
		t.Errorf("Plain = %v, not ErrFull alone", err)
	}
}

// P4: nil and the empty list are one argument.
func TestNilIsEmpty(t *testing.T) {
	for _, letters := range []int{0, 1} {
		for _, f := range [][]api.Node{nil, {}, {{Kind: 7}}, {{Kind: 0}, {Kind: 7}}} {
			checkAll(t, letters, f, nil)
			checkAll(t, letters, f, []int{})
		}
	}
	for _, f := range [][]api.Node{nil, {}} {
		if end, ahead, none := mean.End(f), mean.Ahead(f, nil, 0), mean.Ahead(f, []bool{}, 0); len(end)+len(ahead)+len(none) != 0 {
			t.Errorf("End = %v, Ahead = %v, %v", end, ahead, none)
		}
	}
}

// P5: long arguments are no obstacle.
func TestLong(t *testing.T) {
	for _, c := range sample.LongForms() {
		for i, err := range errorsOf(c.Letters, c.Form, make([]int, 1<<24)) {
			if !sample.OnlyErrno(err, c.Want) {
				t.Errorf("%s: error %d is %v, want %v", c.Name, i, err, c.Want)
			}
		}
		if end, ahead := mean.End(c.Form), mean.Ahead(c.Form, make([]bool, len(c.Form)), 0); len(end)+len(ahead) != 0 {
			t.Errorf("%s: there are %d and %d values", c.Name, len(end), len(ahead))
		}
	}
	f, err := form.Read(2, strings.Repeat("!", 39)+"t")
	if err != nil {
		t.Fatal(err)
	}
	if _, err := mean.Values(2, f, make([]int, 1<<24)); !sample.OnlyErrno(err, api.ErrFull) {
		t.Errorf("Values of a long word = %v", err)
	}
	if got := mean.Ahead(f, make([]bool, 1<<24), 0); len(got) != 0 {
		t.Errorf("Ahead of a long list = %v", got)
	}
}
