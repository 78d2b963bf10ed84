package form_test

import (
	"math"
	"slices"
	"strings"
	"testing"

	"stileward/api"
	"stileward/form"
	"stileward/plain"
	"stileward/sample"
)

// 10.1: the numbers of the kinds.
func TestKinds(t *testing.T) {
	kinds := []int{api.True, api.False, api.Is, api.Not, api.And, api.Or, api.Next, api.Weak, api.Until, api.Release}
	for number, kind := range kinds {
		if kind != number {
			t.Errorf("kind %d has the number %d", number, kind)
		}
	}
}

// checkCheck demands of Check what its words say.
func checkCheck(t *testing.T, letters int, f []api.Node) {
	t.Helper()
	if err := form.Check(letters, f); plain.Told(err) != wrongOf(letters, f) {
		t.Errorf("Check(%d, %v) = %v, want %v", letters, f, err, wrongOf(letters, f))
	}
}

// 10.1: what Check finds, and what it finds first.
func TestCheck(t *testing.T) {
	for _, c := range sample.FormChecks() {
		if err := form.Check(c.Letters, c.Form); plain.Told(err) != c.Want {
			t.Errorf("%s: Check(%d, %v) = %v, want %v", c.Name, c.Letters, c.Form, err, c.Want)
		}
		checkCheck(t, c.Letters, c.Form)
	}
}

// 10.1: there are from 1 to 6 letters, and from 1 to 40 nodes.
func TestCheckSizes(t *testing.T) {
	for letters := -2; letters <= 9; letters++ {
		for nodes := range 300 {
			want := api.OK
			switch {
			case letters < 1 || letters > 6:
				want = api.ErrRange
			case nodes < 1:
				want = api.ErrShape
			case nodes > 40:
				want = api.ErrFull
			}
			if err := form.Check(letters, make([]api.Node, nodes)); plain.Told(err) != want {
				t.Errorf("Check of %d letters and %d nodes = %v, want %v", letters, nodes, err, want)
			}
		}
	}
}

// 10.1: a set is one of the given letters.
func TestCheckSets(t *testing.T) {
	for letters := 1; letters <= 6; letters++ {
		for set := -70; set <= 200; set++ {
			want := api.OK
			if set < 0 || set >= 1<<letters {
				want = api.ErrRange
			}
			if err := form.Check(letters, []api.Node{sample.Node(2, set, 0)}); plain.Told(err) != want {
				t.Errorf("Check of the set %d of %d letters = %v, want %v", set, letters, err, want)
			}
		}
	}
}

// 10.1: of each kind, at each position, the operands are earlier nodes, and what is none is 0.
func TestCheckOperands(t *testing.T) {
	numbers := []int{math.MinInt, -1 << 32, -2, -1, 0, 1, 2, 3, 4, 5, 38, 39, 40, 64, 256, 1 << 32, 1<<32 + 1, math.MaxInt}
	for _, nodes := range []int{1, 2, 4, 40} {
		for at := range nodes {
			for kind := -2; kind <= 13; kind++ {
				for i := range len(numbers) * len(numbers) {
					f := sample.Stacked(nodes, sample.Node(0, 0, 0), 3)
					f[at] = sample.Node(kind, numbers[i%len(numbers)], numbers[i/len(numbers)])
					checkCheck(t, 3, f)
				}
			}
		}
	}
}

// 10.1: of two nodes, the first one with an error decides, and its ErrRange before its ErrShape.
func TestCheckPairs(t *testing.T) {
	var nodes []api.Node
	for kind := -1; kind <= 10; kind++ {
		for operands := range 25 {
			nodes = append(nodes, sample.Node(kind, operands%5-1, operands/5-1))
		}
	}
	for _, first := range nodes {
		for _, second := range nodes {
			checkCheck(t, 1, []api.Node{first, second})
		}
	}
}

// 10.2: the text of each kind.
func TestWrite(t *testing.T) {
	node := sample.Node
	cases := []struct {
		letters int
		f       []api.Node
		want    string
	}{
		{1, []api.Node{node(0, 0, 0)}, "t"},
		{1, []api.Node{node(1, 0, 0)}, "f"},
		{1, []api.Node{node(2, 0, 0)}, "[]"},
		{1, []api.Node{node(2, 1, 0)}, "[0]"},
		{6, []api.Node{node(2, 32, 0)}, "[5]"},
		{6, []api.Node{node(2, 0b101010, 0)}, "[135]"},
		{6, []api.Node{node(2, 63, 0)}, "[012345]"},
		{2, []api.Node{node(2, 2, 0), node(3, 0, 0)}, "![1]"},
		{2, []api.Node{node(2, 2, 0), node(6, 0, 0)}, "X[1]"},
		{2, []api.Node{node(2, 2, 0), node(7, 0, 0)}, "W[1]"},
		{2, []api.Node{node(2, 2, 0), node(2, 1, 0), node(4, 0, 1)}, "([1]&[0])"},
		{2, []api.Node{node(2, 2, 0), node(2, 1, 0), node(5, 1, 0)}, "([0]|[1])"},
		{2, []api.Node{node(2, 2, 0), node(2, 1, 0), node(8, 1, 0)}, "([0]U[1])"},
		{2, []api.Node{node(2, 2, 0), node(2, 1, 0), node(9, 0, 1)}, "([1]R[0])"},
		{2, []api.Node{node(0, 0, 0), node(3, 0, 0), node(6, 1, 0), node(7, 2, 0), node(3, 3, 0)}, "!WX!t"},
		{2, []api.Node{node(0, 0, 0), node(4, 0, 0), node(3, 1, 0), node(5, 2, 1)}, "(!(t&t)|(t&t))"},
		{2, []api.Node{node(0, 0, 0), node(1, 0, 0), node(8, 0, 1), node(9, 2, 2)}, "((tUf)R(tUf))"},
		{2, []api.Node{node(0, 0, 0), node(1, 0, 0), node(6, 0, 0)}, "Xt"},
		{2, []api.Node{node(0, 0, 0), node(4, 0, 0), node(1, 0, 0)}, "f"},
	}
	for _, c := range cases {
		if got, err := form.Write(c.letters, c.f); got != c.want || err != nil {
			t.Errorf("Write(%d, %v) = %q, %v, want %q", c.letters, c.f, got, err, c.want)
		}
	}
}

// checkWrite demands of Write what its words say.
func checkWrite(t *testing.T, letters int, f []api.Node) {
	t.Helper()
	want, wrong := writeSlowly(letters, f)
	if got, err := form.Write(letters, f); got != want || plain.Told(err) != wrong {
		t.Errorf("Write(%d, %v) = %q, %v, want %q, %v", letters, f, got, err, want, wrong)
	}
}

// 10.2: a text has at most 300 bytes, of which those of a node count as often as it is used;
// what is part of nothing does not count.
func TestWriteFull(t *testing.T) {
	leaf := sample.Node(2, 63, 0)
	// The nodes of the stack have 8, 19, 41, 85 and 173 bytes.
	sized := func(size int) []api.Node {
		f := sample.Stacked(5, leaf, 8)
		at := 0
		for range size - 294 {
			f = append(f, sample.Node(3, at, 0))
			at = len(f) - 1
		}
		for _, other := range []int{1, 3, 4} {
			f = append(f, sample.Node(9, other, at))
			at = len(f) - 1
		}
		return f
	}
	cases := []struct {
		name string
		f    []api.Node
		size int
	}{
		{"40 nodes in a row", sample.Stacked(40, leaf, 7), 47},
		{"5 nodes, all used twice", sample.Stacked(5, leaf, 8), 173},
		{"6 nodes, all used twice", sample.Stacked(6, leaf, 8), 349},
		{"40 nodes, all used twice", sample.Stacked(40, leaf, 4), 6047313952765},
		{"299 bytes", sized(299), 299},
		{"300 bytes", sized(300), 300},
		{"300 bytes that begin with !", append(sized(299), sample.Node(3, 12, 0)), 300},
		{"301 bytes", sized(301), 301},
		{"301 bytes that begin with !", append(sized(300), sample.Node(3, 13, 0)), 301},
		{"302 bytes", sized(302), 302},
		{"603 bytes", append(sized(300), sample.Node(4, 13, 13)), 603},
		{"301 bytes that are part of nothing", append(sized(301), leaf), 8},
		{"40 nodes, all used twice, that are part of nothing", append(sample.Stacked(39, leaf, 4), sample.Node(1, 0, 0)), 1},
	}
	for _, c := range cases {
		if got := lengths(c.f)[len(c.f)-1]; got != c.size {
			t.Errorf("%s: the text would have %d bytes, not %d", c.name, got, c.size)
		}
		checkWrite(t, 6, c.f)
	}
}

// 10.2: texts of all sizes around 300, whatever the signs at their ends.
func TestWriteSizes(t *testing.T) {
	var sizes [400]int
	for seed := range uint64(40000) {
		below := sample.Below(seed)
		f := sample.MixedForm(seed, 6, 8+below(16))
		if size := lengths(f)[len(f)-1]; size >= 250 && size < 400 {
			sizes[size]++
			checkWrite(t, 6, f)
		}
	}
	for size := 290; size <= 310; size++ {
		if sizes[size] == 0 {
			t.Errorf("no text has %d bytes", size)
		}
	}
}

// 10.2: Write of all small formulas does what the words say.
func TestWriteAll(t *testing.T) {
	cases := []struct{ letters, nodes int }{{1, 1}, {6, 1}, {1, 2}, {3, 2}, {1, 3}, {2, 3}, {1, 4}}
	for _, c := range cases {
		for _, f := range sample.AllForms(c.letters, c.nodes) {
			checkWrite(t, c.letters, f)
		}
	}
}

// 10.2: Write of formulas of all sizes does what the words say, and its errors are those of Check first.
func TestWriteMixed(t *testing.T) {
	full, written := 0, 0
	for seed := range uint64(20000) {
		below := sample.Below(seed)
		letters, nodes := 1+below(6), 1+below(40)
		f := sample.MixedForm(seed, letters, nodes)
		checkWrite(t, letters, f)
		_, err := form.Write(letters, f)
		switch {
		case plain.Told(err) == api.ErrFull:
			full++
		case nodes > 10:
			written++
		}
	}
	if full < 1000 || written < 2000 {
		t.Errorf("%d texts are too long, and %d of many nodes are not", full, written)
	}
	for _, c := range sample.FormChecks() {
		checkWrite(t, c.Letters, c.Form)
	}
	long := sample.Stacked(40, sample.Node(2, 3, 0), 4)
	for _, n := range []api.Node{{Kind: 10}, {Kind: 3, A: 39}} {
		long[39] = n
		checkWrite(t, 2, long)
		checkWrite(t, 0, long)
	}
}

// 10.3: the nodes of a text, in their order.
func TestRead(t *testing.T) {
	node := sample.Node
	cases := []struct {
		letters int
		text    string
		want    []api.Node
	}{
		{1, "t", []api.Node{node(0, 0, 0)}},
		{1, "f", []api.Node{node(1, 0, 0)}},
		{1, "[]", []api.Node{node(2, 0, 0)}},
		{6, "[5]", []api.Node{node(2, 32, 0)}},
		{6, "[135]", []api.Node{node(2, 0b101010, 0)}},
		{6, "[012345]", []api.Node{node(2, 63, 0)}},
		{1, "((([0])))", []api.Node{node(2, 1, 0)}},
		{1, "!Xt", []api.Node{node(0, 0, 0), node(6, 0, 0), node(3, 1, 0)}},
		{1, "W!f", []api.Node{node(1, 0, 0), node(3, 0, 0), node(7, 1, 0)}},
		{2, "[0]&[1]", []api.Node{node(2, 1, 0), node(2, 2, 0), node(4, 0, 1)}},
		{2, "[1]|[1]", []api.Node{node(2, 2, 0), node(2, 2, 0), node(5, 0, 1)}},
		{2, "[0]U[1]R[01]", []api.Node{node(2, 1, 0), node(2, 2, 0), node(2, 3, 0), node(9, 1, 2), node(8, 0, 3)}},
		{2, "[0]&[1]&[01]", []api.Node{node(2, 1, 0), node(2, 2, 0), node(4, 0, 1), node(2, 3, 0), node(4, 2, 3)}},
		{2, "[0]|[1]|[01]", []api.Node{node(2, 1, 0), node(2, 2, 0), node(5, 0, 1), node(2, 3, 0), node(5, 2, 3)}},
		{1, "t|f&[]U![0]", []api.Node{
			node(0, 0, 0), node(1, 0, 0), node(2, 0, 0), node(2, 1, 0), node(3, 3, 0), node(8, 2, 4), node(4, 1, 5), node(5, 0, 6),
		}},
		{1, "![0]U[]&f|t", []api.Node{
			node(2, 1, 0), node(3, 0, 0), node(2, 0, 0), node(8, 1, 2), node(1, 0, 0), node(4, 3, 4), node(0, 0, 0), node(5, 5, 6),
		}},
	}
	for _, c := range cases {
		if got, err := form.Read(c.letters, c.text); !slices.Equal(got, c.want) || err != nil {
			t.Errorf("Read(%d, %q) = %v, %v, want %v", c.letters, c.text, got, err, c.want)
		}
	}
}

// sames are texts, and for each of them the one that Write makes of the same formula.
var sames = []struct{ loose, text string }{
	{"t|f|t", "((t|f)|t)"},
	{"t|(f|t)", "(t|(f|t))"},
	{"t&f&t", "((t&f)&t)"},
	{"t&(f&t)", "(t&(f&t))"},
	{"tUfUt", "(tU(fUt))"},
	{"(tUf)Ut", "((tUf)Ut)"},
	{"tRfRt", "(tR(fRt))"},
	{"(tRf)Rt", "((tRf)Rt)"},
	{"tUfRtUf", "(tU(fR(tUf)))"},
	{"tRfUtRf", "(tR(fU(tRf)))"},
	{"(tUfRt)Uf", "((tU(fRt))Uf)"},
	{"t|f&t", "(t|(f&t))"},
	{"t&f|t", "((t&f)|t)"},
	{"(t|f)&t", "((t|f)&t)"},
	{"t&(f|t)", "(t&(f|t))"},
	{"t|f&t|f", "((t|(f&t))|f)"},
	{"t&f|t&f", "((t&f)|(t&f))"},
	{"tUf&t", "((tUf)&t)"},
	{"t&fUt", "(t&(fUt))"},
	{"tRf|t", "((tRf)|t)"},
	{"t|fRt", "(t|(fRt))"},
	{"tU(f&t)", "(tU(f&t))"},
	{"(t|f)Rt", "((t|f)Rt)"},
	{"tUf&tRf|tUf&tRf", "(((tUf)&(tRf))|((tUf)&(tRf)))"},
	{"!tUf", "(!tUf)"},
	{"!(tUf)", "!(tUf)"},
	{"tU!f", "(tU!f)"},
	{"tU!fUt", "(tU(!fUt))"},
	{"Xt&f", "(Xt&f)"},
	{"X(t&f)", "X(t&f)"},
	{"Wt|f", "(Wt|f)"},
	{"W(t|f)", "W(t|f)"},
	{"t|W!Xf", "(t|W!Xf)"},
	{"!(X(W(t)))", "!XWt"},
	{"!!t", "!!t"},
	{"(t)", "t"},
	{"((t))&(((f)))", "(t&f)"},
	{"((t&f))", "(t&f)"},
	{"([012])", "[012]"},
	{"![0]&X[]|W[12]", "((![0]&X[])|W[12])"},
}

// 10.3: how tightly the signs bind, and where parentheses can be.
func TestReadSame(t *testing.T) {
	for _, c := range sames {
		want, wrong := form.Read(3, c.text)
		if got, err := form.Read(3, c.loose); !slices.Equal(got, want) || err != nil || wrong != nil {
			t.Errorf("Read(3, %q) = %v, %v, but of %q it is %v, %v", c.loose, got, err, c.text, want, wrong)
		}
		got, err := form.Read(3, c.loose)
		if text, wrong := form.Write(3, got); text != c.text || err != nil || wrong != nil {
			t.Errorf("%q is read as %v, %v, and written as %q, %v", c.loose, got, err, text, wrong)
		}
	}
}

// 10.3: spaces can be anywhere, even between the digits of a set and at both ends, and nothing else can.
func TestReadSpaces(t *testing.T) {
	for _, c := range sames {
		want, wrong := form.Read(3, c.loose)
		for i := range len(c.loose) + 1 {
			for _, space := range []string{" ", "   "} {
				text := c.loose[:i] + space + c.loose[i:]
				if got, err := form.Read(3, text); !slices.Equal(got, want) || err != nil || wrong != nil {
					t.Errorf("Read(3, %q) = %v, %v, want %v", text, got, err, want)
				}
			}
			for _, other := range []string{"\t", "\n", "\r", "\v", "\f", "\x00", "\x1f", "\x21\x20", "_", "\u00a0", "\u2003", "\x85"} {
				text := c.loose[:i] + other + c.loose[i:]
				want, wrong := readSlowly(3, text)
				if got, err := form.Read(3, text); !slices.Equal(got, want) || plain.Told(err) != wrong {
					t.Errorf("Read(3, %q) = %v, %v, want %v, %v", text, got, err, want, wrong)
				}
			}
		}
		everywhere := " " + strings.Join(strings.Split(c.loose, ""), "  ") + " "
		if got, err := form.Read(3, everywhere); !slices.Equal(got, want) || err != nil {
			t.Errorf("Read(3, %q) = %v, %v, want %v", everywhere, got, err, want)
		}
	}
}

// faults are texts that are no formulas of three letters.
var faults = []string{
	"", " ", "     ", "()", "( )", "(())", "[", "]", "[[", "][", "[0", "0]", "0", "[]]", "[[]]", "[(0)]", "([0)]",
	"[3]", "[4]", "[9]", "[03]", "[30]", "[00]", "[10]", "[0 0]", "[2 1]", "[011]", "[0120]", "[0,1]", "[-1]", "[+1]", "[a]", "[t]", "[:]", "[/]",
	"[\x00]", "[\x01]", "[\u0661]", "[\xb0]",
	"T", "F", "true", "tt", "t f", "ft", "t[]", "[]t", "[][]", "[0][1]", "(t)(f)", "(t)f", "t(f)", "t!", "t!f", "tX", "tXf", "!", "X", "W", "!X", "X!W", "x", "w",
	"&", "|", "U", "R", "t&", "&t", "t|", "|t", "tU", "Ut", "tR", "Rt", "t&&t", "t||t", "t&|t", "t|&t", "tUUt", "tURt", "t&Ut", "tU&t", "t|Rt",
	"!&t", "!|t", "t&!", "XUt", "!Rt", "tu f", "trf", "t∧f", "t∨f", "¬t", "\u00ac", "t;", "t.", "t\x00", "\x00", "\x00t", "t\xff", "\xfft", "\xc2\xa0t", "t\x80", "\xf4",
	"(", ")", "(t", "t)", "((t)", "(t))", ")t(", "t)(t", "(t)(t)", "(t&f", "t&f)", "(t&)f", "t(&f)", "(t&f)(", "(t)&(", "(t|f]", "[t|f)", "{t}", "<t>",
	"f1", "t0", "1", "true&false", "[0]U", "U[0]", "[0]U[", "[0]U]", "[0]U[1", "[0]U1]", "![0", "!0]", "(!)t", "!()t", "X(t", "Xt)", "t & ", " & t", "( & )", "!t!", "t t",
}

// 10.3: what is no formula is ErrSyntax.
func TestReadFaults(t *testing.T) {
	for _, text := range faults {
		if got, err := form.Read(3, text); len(got) != 0 || plain.Told(err) != api.ErrSyntax {
			t.Errorf("Read(3, %q) = %v, %v, want ErrSyntax", text, got, err)
		}
		for _, s := range []string{"(" + text + ")", "t&(" + text + ")", "!(" + text + ")U[01]"} {
			checkRead(t, 3, s)
		}
	}
}

// 10.3: the digits of a set are rising letters.
func TestReadSets(t *testing.T) {
	for letters := 1; letters <= 6; letters++ {
		for _, digits := range sample.Texts(3, "/0123456789:a") {
			checkRead(t, letters, "["+digits+"]")
			if set := strings.ReplaceAll("["+digits+"]", "", " "); letters == 6 {
				checkRead(t, letters, set)
			}
		}
		for set := range 64 {
			want := []api.Node{sample.Node(2, set, 0)}
			wrong := api.OK
			if set >= 1<<letters {
				want, wrong = nil, api.ErrSyntax
			}
			if got, err := form.Read(letters, setText(set)); !slices.Equal(got, want) || plain.Told(err) != wrong {
				t.Errorf("Read(%d, %q) = %v, %v, want %v, %v", letters, setText(set), got, err, want, wrong)
			}
		}
	}
}

// checkRead demands of Read what its words say.
func checkRead(t *testing.T, letters int, s string) {
	t.Helper()
	want, wrong := readSlowly(letters, s)
	if got, err := form.Read(letters, s); !slices.Equal(got, want) || plain.Told(err) != wrong {
		t.Errorf("Read(%d, %q) = %v, %v, want %v, %v", letters, s, got, err, want, wrong)
	}
}

// 10.3: Read of all short texts does what the words say.
func TestReadAll(t *testing.T) {
	var texts []string
	texts = append(texts, sample.Texts(2, sample.Bytes())...)
	texts = append(texts, sample.Texts(5, "tf!XW&|UR()")...)
	texts = append(texts, sample.Texts(6, "t!&U()")...)
	texts = append(texts, sample.Texts(6, "t|R( )")...)
	texts = append(texts, sample.Texts(6, "[012] |")...)
	texts = append(texts, sample.Texts(9, "t&U")...)
	texts = append(texts, sample.Texts(9, "t|&")...)
	good := 0
	for _, s := range texts {
		checkRead(t, 2, s)
		if _, err := form.Read(2, s); err == nil {
			good++
		}
	}
	if good < 1000 {
		t.Errorf("%d of %d texts are formulas", good, len(texts))
	}
}

// 10.3: Read undoes all ways of writing a formula.
func TestReadMixed(t *testing.T) {
	for seed := range uint64(20000) {
		below := sample.Below(seed)
		letters, nodes := 1+below(6), 1+below(25)
		x := sample.MixedTree(below, letters, nodes)
		s := spaced(below, loose(x, below, byOr))
		if len(s) > 300 {
			continue
		}
		got, err := form.Read(letters, s)
		if !slices.Equal(got, x.Nodes()) || err != nil {
			t.Errorf("Read(%d, %q) = %v, %v, want %v", letters, s, got, err, x.Nodes())
		}
		if text, err := form.Write(letters, got); text != textOf(x) || err != nil {
			t.Errorf("Write(%d, %v) = %q, %v, want %q", letters, got, text, err, textOf(x))
		}
	}
}

// 10.3: Read of formulas in which some bytes are other ones does what the words say.
func TestReadSpoilt(t *testing.T) {
	const signs = "tf!XW&|UR()[]012 "
	good, bad := 0, 0
	for seed := range uint64(30000) {
		below := sample.Below(seed)
		x := sample.MixedTree(below, 3, 1+below(12))
		s := loose(x, below, byOr)
		for range 1 + below(3) {
			i := below(len(s))
			j := min(len(s), i+below(2))
			sign := below(len(signs))
			s = s[:i] + signs[sign:sign+below(2)] + s[j:] + " "
		}
		checkRead(t, 3, s)
		if _, err := form.Read(3, s); err == nil {
			good++
		} else {
			bad++
		}
	}
	if good < 1000 || bad < 1000 {
		t.Errorf("%d texts are formulas, and %d are not", good, bad)
	}
}

// 10.2, 10.3: Read undoes Write, but nodes that are used several times are there several times.
func TestReadWritten(t *testing.T) {
	read, full := 0, 0
	for seed := range uint64(20000) {
		below := sample.Below(seed)
		letters, nodes := 1+below(6), 1+below(20)
		f := sample.MixedForm(seed, letters, nodes)
		text, err := form.Write(letters, f)
		if err != nil {
			continue
		}
		x := sample.Unfold(f, nodes-1)
		want, wrong := x.Nodes(), api.OK
		if len(want) > 40 {
			want, wrong = nil, api.ErrFull
			full++
		}
		got, err := form.Read(letters, text)
		if !slices.Equal(got, want) || plain.Told(err) != wrong {
			t.Errorf("Read(%d, %q) = %v, %v, want %v, %v", letters, text, got, err, want, wrong)
		}
		if err == nil && !equalTrees(sample.Unfold(got, len(got)-1), x) {
			t.Errorf("%v is written as %q, and that is read as %v", f, text, got)
		}
		if err == nil && form.Check(letters, got) == nil {
			read++
		}
	}
	if read < 2000 || full < 200 {
		t.Errorf("%d formulas are read, and %d would have too many nodes", read, full)
	}
}

// 10.3: the errors of Read, and which of them goes first.
func TestReadErrors(t *testing.T) {
	nots := func(n int, rest string) string { return strings.Repeat("!", n) + rest }
	deep := func(n int) string { return strings.Repeat("(", n) + "t" + strings.Repeat(")", n) }
	ands := func(n int) string { return "t" + strings.Repeat("&t", n) }
	cases := []struct {
		name    string
		letters int
		text    string
		want    api.Errno
	}{
		{"no letters", 0, "t", api.ErrRange},
		{"7 letters", 7, "t", api.ErrRange},
		{"negative letters", -1, "t", api.ErrRange},
		{"least letters", math.MinInt, "t", api.ErrRange},
		{"greatest letters", math.MaxInt, "t", api.ErrRange},
		{"great letters", 1<<32 + 1, "t", api.ErrRange},
		{"no letters of nothing", 0, "", api.ErrRange},
		{"no letters of a long text", 0, strings.Repeat("t", 301), api.ErrRange},
		{"7 letters of a long text", 7, deep(200), api.ErrRange},
		{"7 letters, 41 nodes", 7, nots(40, "t"), api.ErrRange},
		{"set of 7 letters", 7, "[6]", api.ErrRange},

		{"300 bytes with spaces", 1, "t" + strings.Repeat(" ", 299), api.OK},
		{"300 bytes with spaces in front", 1, strings.Repeat(" ", 299) + "t", api.OK},
		{"301 bytes with spaces", 1, "t" + strings.Repeat(" ", 300), api.ErrFull},
		{"301 bytes with spaces in front", 1, strings.Repeat(" ", 300) + "t", api.ErrFull},
		{"299 bytes in parentheses", 1, deep(149), api.OK},
		{"300 bytes in parentheses", 1, deep(149) + " ", api.OK},
		{"301 bytes in parentheses", 1, deep(150), api.ErrFull},
		{"300 spaces", 1, strings.Repeat(" ", 300), api.ErrSyntax},
		{"301 spaces", 1, strings.Repeat(" ", 301), api.ErrFull},
		{"300 bytes that are no formula", 1, strings.Repeat("(", 300), api.ErrSyntax},
		{"301 bytes that are no formula", 1, strings.Repeat("(", 301), api.ErrFull},
		{"301 bytes, 41 nodes", 1, nots(40, "t") + strings.Repeat(" ", 260), api.ErrFull},
		{"301 runes", 1, strings.Repeat("\u00e9", 301), api.ErrFull},
		{"200 runes of 400 bytes", 1, strings.Repeat("\u00e9", 200), api.ErrFull},
		{"556 bytes", 1, "t" + strings.Repeat(" ", 555), api.ErrFull},

		{"39 nodes", 1, nots(38, "t"), api.OK},
		{"40 nodes", 1, nots(39, "t"), api.OK},
		{"41 nodes", 1, nots(40, "t"), api.ErrFull},
		{"300 nodes", 1, nots(299, "t"), api.ErrFull},
		{"39 nodes in a row", 1, ands(19), api.OK},
		{"41 nodes in a row", 1, ands(20), api.ErrFull},
		{"40 nodes in a row", 1, "!" + ands(19), api.OK},
		{"299 nodes in a row", 1, ands(149), api.ErrFull},
		{"299 nodes from the right", 1, "t" + strings.Repeat("Ut", 149), api.ErrFull},
		{"40 nodes, 60 parentheses", 1, strings.Repeat("(", 30) + nots(39, "t") + strings.Repeat(")", 30), api.OK},

		{"41 nodes, and no formula", 1, nots(40, "t") + "t", api.ErrSyntax},
		{"41 nodes that do not end", 1, ands(20) + "&", api.ErrSyntax},
		{"41 nodes in an open parenthesis", 1, "(" + ands(20), api.ErrSyntax},
		{"41 nodes, and a digit that is no letter", 1, ands(20) + "&[1]", api.ErrSyntax},
		{"299 signs without an operand", 1, nots(299, ""), api.ErrSyntax},
	}
	for _, c := range cases {
		got, err := form.Read(c.letters, c.text)
		if plain.Told(err) != c.want || err != nil && len(got) != 0 {
			t.Errorf("%s: Read(%d, %q) = %v, %v, want %v", c.name, c.letters, c.text, got, err, c.want)
		}
		checkRead(t, c.letters, c.text)
	}
}
