package frame_test

import (
	"slices"
	"strings"
	"testing"
	"unsafe"

	"stileward/api"
	"stileward/frame"
	"stileward/plain"
	"stileward/sample"
)

// P1: whatever the text, all functions return normally and do what the words say.
func FuzzFrames(f *testing.F) {
	for _, c := range frames {
		f.Add(c.body)
		f.Add(c.text)
	}
	for _, c := range readErrors {
		f.Add(c.text)
		f.Add("\x01ab" + c.text)
	}
	f.Fuzz(func(t *testing.T, s string) {
		checkRoundTrip(t, s)
		body, used, err := frame.Read(s)
		wantBody, wantUsed, want := readSlowly(s)
		if body != wantBody || used != wantUsed || plain.Told(err) != want {
			t.Errorf("Read(%q) = %q, %d, %v, want %q, %d, %v", s, body, used, err, wantBody, wantUsed, want)
		}
		bodies, used, err := frame.Scan(s)
		wantBodies, wantUsed, want := scanSlowly(s)
		if !slices.Equal(bodies, wantBodies) || used != wantUsed || plain.Told(err) != want {
			t.Errorf("Scan(%q) = %q, %d, %v, want %q, %d, %v", s, bodies, used, err, wantBodies, wantUsed, want)
		}
		checkRewritten(t, bodies, s[:used])
	})
}

// checkRoundTrip writes a body, if it is short enough, and reads it back.
func checkRoundTrip(t *testing.T, body string) {
	text, err := frame.Write(body)
	if len(body) > 200 {
		if text != "" || plain.Told(err) != api.ErrFull {
			t.Errorf("Write(%q) = %q, %v, want ErrFull", body, text, err)
		}
		return
	}
	if want := number(len(body)) + body + number(checksum(body)); text != want || err != nil {
		t.Errorf("Write(%q) = %q, %v, want %q", body, text, err, want)
	}
	again, used, err := frame.Read(text)
	if again != body || used != len(text) || err != nil {
		t.Errorf("Read(%q) = %q, %d, %v, want %q, %d", text, again, used, err, body, len(text))
	}
}

// checkRewritten demands that writing bodies leads back to the text that they were read from.
func checkRewritten(t *testing.T, bodies []string, want string) {
	var text strings.Builder
	for _, body := range bodies {
		one, err := frame.Write(body)
		if err != nil {
			t.Errorf("Write(%q): %v", body, err)
		}
		text.WriteString(one)
	}
	if text.String() != want {
		t.Errorf("the bodies %q were read from %q", bodies, want)
	}
}

// overlap tells whether two strings share a byte of memory.
func overlap(a, b string) bool {
	beginA, beginB := uintptr(unsafe.Pointer(unsafe.StringData(a))), uintptr(unsafe.Pointer(unsafe.StringData(b)))
	return len(a) > 0 && len(b) > 0 && beginA < beginB+uintptr(len(b)) && beginB < beginA+uintptr(len(a))
}

// P2: no result is a part of the argument's memory, or of another result's.
func TestResultsAreNew(t *testing.T) {
	argument := strings.Repeat("\x09stileward\xb1\xe1\x22", 2)
	body, _, err := frame.Read(argument)
	bodies, _, wrong := frame.Scan(argument)
	written, full := frame.Write(argument)
	again, full2 := frame.Write(argument)
	if len(bodies) != 2 || err != nil || wrong != nil || full != nil || full2 != nil {
		t.Fatalf("Scan = %q, errors %v, %v, %v, %v", bodies, err, wrong, full, full2)
	}
	all := append([]string{argument, body, written, again}, bodies...)
	for i, one := range all {
		for j, other := range all[:i] {
			if overlap(one, other) {
				t.Errorf("the strings %d and %d share memory", i, j)
			}
		}
	}
}

// P2: results of Scan share no memory with each other, not even behind their ends.
func TestScanShares(t *testing.T) {
	text := "\x01ab\x00\x00\x02ab\xc5\xc5\x01"
	first, _, _ := frame.Scan(text)
	first = first[:cap(first)]
	for i := range first {
		first[i] = "first"
	}
	second, used, err := frame.Scan(text)
	if !slices.Equal(second, []string{"a", "", "ab"}) || used != len(text) || err != nil {
		t.Errorf("the second result is %q, %d, %v", second, used, err)
	}
	second[0] = "second"
	if first[0] != "first" {
		t.Error("the results share memory")
	}
}

// P2: results depend on no earlier call, be it a good or a bad one.
func TestRepeats(t *testing.T) {
	for range 3 {
		for _, c := range readErrors {
			if _, _, err := frame.Read(c.text); plain.Told(err) != c.want {
				t.Errorf("%s: Read: %v", c.name, err)
			}
			if _, err := frame.Write(strings.Repeat("a", 201)); plain.Told(err) != api.ErrFull {
				t.Errorf("Write: %v", err)
			}
			if text, err := frame.Write("a"); text != "\x01ab" || err != nil {
				t.Errorf("Write = %q, %v", text, err)
			}
			bodies, used, err := frame.Scan("\x01ab" + c.text)
			if !slices.Equal(bodies, []string{"a"}) || used != 3 {
				t.Errorf("%s: Scan = %q, %d, %v", c.name, bodies, used, err)
			}
		}
	}
}

// P3: each error is, or wraps, the Errno that it stands for, and no other one.
func TestErrorsAreErrnos(t *testing.T) {
	_, full := frame.Write(strings.Repeat("a", 201))
	checkErrno(t, "Write", full, api.ErrFull)
	for _, c := range readErrors {
		_, _, err := frame.Read(c.text)
		checkErrno(t, c.name, err, c.want)
		if c.want != api.ErrNone {
			_, _, err = frame.Scan(c.text)
			checkErrno(t, c.name, err, c.want)
		}
	}
}

func checkErrno(t *testing.T, name string, err error, want api.Errno) {
	t.Helper()
	if !sample.OnlyErrno(err, want) {
		t.Errorf("%s: %v is not the Errno %v alone", name, err, want)
	}
}

// P5: long texts are no obstacle.
func TestLong(t *testing.T) {
	const count = 1 << 22
	bodies, used, err := frame.Scan(strings.Repeat("\x01ab", count))
	if len(bodies) != count || used != 3*count || err != nil {
		t.Fatalf("Scan = %d bodies, %d, %v", len(bodies), used, err)
	}
	for _, body := range bodies {
		if body != "a" {
			t.Fatalf("Scan read %q", body)
		}
	}
	long := strings.Repeat("a", 1<<24)
	if body, used, err := frame.Read("\x01ab" + long); body != "a" || used != 3 || err != nil {
		t.Errorf("Read = %q, %d, %v", body, used, err)
	}
	if text, err := frame.Write(long); text != "" || plain.Told(err) != api.ErrFull {
		t.Errorf("Write = %q, %v", text, err)
	}
}
