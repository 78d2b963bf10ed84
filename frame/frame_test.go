package frame_test

import (
	"math"
	"slices"
	"strings"
	"testing"

	"stileward/api"
	"stileward/frame"
	"stileward/plain"
)

// frames of bodies, with both ends of the lengths and of the checksums.
var frames = []struct{ body, text string }{
	{"", "\x00\x00"},
	{"\x00", "\x01\x00\x01"},
	{"~", "\x01~\x7f"},
	{"\x7f", "\x01\x7f\x80\x01"},
	{"\xff", "\x01\xff\x80\x02"},
	{"a", "\x01ab"},
	{"ab", "\x02ab\xc5\xc5\x01"},
	{"\x00\x00", "\x02\x00\x00\x82\x02"},
	{"\xc3\xa9", "\x02\xc3\xa9\xee\x8a\x03"},
	{"\x0e#\x0f", "\x03\x0e#\x0f\x00"},
	{"\x0e#\x0e", "\x03\x0e#\x0e\xc2\x84\x3d"},
	{"\x02ab\xc5\xc5\x01", "\x06\x02ab\xc5\xc5\x01\xbfk"},
	{"stileward", "\x09stileward\xb1\xe1\x22"},
	{strings.Repeat("a", 126), "~" + strings.Repeat("a", 126) + "\xb7\xe7\x19"},
	{strings.Repeat("a", 127), "\x7f" + strings.Repeat("a", 127) + "\xd5\xed("},
	{strings.Repeat("a", 128), "\x80\x01" + strings.Repeat("a", 128) + "\xb3\x8e\x02"},
	{strings.Repeat("a", 129), "\x81\x01" + strings.Repeat("a", 129) + "\xfd\xd06"},
	{strings.Repeat("\xff", 199), "\xc7\x01" + strings.Repeat("\xff", 199) + "\xa6\xd4<"},
	{strings.Repeat("\x00", 200), "\xc8\x01" + strings.Repeat("\x00", 200) + "\xd2\x81\x07"},
	{strings.Repeat("a", 200), "\xc8\x01" + strings.Repeat("a", 200) + "\x83\xef\x0f"},
	{strings.Repeat("\xff", 200), "\xc8\x01" + strings.Repeat("\xff", 200) + "\xe9\xa0\x19"},
}

// tails may be behind a frame and are no part of it.
var tails = []string{"", "\x00", "\x01", "\x7f", "\x80", "\xff", strings.Repeat("\xff", 12), "\x80\x00", "text"}

// 3.1: Write returns the length, the body, and the checksum.
func TestWrite(t *testing.T) {
	for _, c := range frames {
		got, err := frame.Write(c.body)
		if got != c.text || err != nil {
			t.Errorf("Write(%q) = %q, %v, want %q", c.body, got, err, c.text)
		}
	}
}

// 3.1: Write refuses bodies of more than 200 bytes; it counts bytes, not runes.
func TestWriteFull(t *testing.T) {
	for _, body := range []string{
		strings.Repeat("a", 201),
		strings.Repeat("\x00", 201),
		strings.Repeat("\xc3\xa9", 101),
		strings.Repeat("a", 256),
		strings.Repeat("a", 456),
		strings.Repeat("a", 1<<16),
	} {
		got, err := frame.Write(body)
		if got != "" || plain.Told(err) != api.ErrFull {
			t.Errorf("Write of %d bytes = %q, %v, want ErrFull", len(body), got, err)
		}
	}
}

// 3.1: Read reads what Write writes, and ignores what follows.
func TestRead(t *testing.T) {
	for _, c := range frames {
		for _, tail := range tails {
			body, used, err := frame.Read(c.text + tail)
			if body != c.body || used != len(c.text) || err != nil {
				t.Errorf("Read(%q) = %q, %d, %v, want %q, %d", c.text+tail, body, used, err, c.body, len(c.text))
			}
		}
	}
}

const (
	nines = "\xff\xff\xff\xff\xff\xff\xff\xff\xff" // no number begins with them
	most  = "\xff\xff\xff\xff\xff\xff\xff\xff\x7f" // the greatest number
)

// readErrors are texts, and the first error of each.
var readErrors = []struct {
	name, text string
	want       api.Errno
}{
	{"no length", "", api.ErrNone},
	{"part of a length", "\x80", api.ErrNone},
	{"part of a length that is too great", "\xc9", api.ErrNone},
	{"part of a very long length", nines[:8], api.ErrNone},
	{"endless length", nines, api.ErrSyntax},
	{"endless length, and more", nines + "\x01ab", api.ErrSyntax},
	{"length with a needless digit", "\x81\x00ab", api.ErrSyntax},
	{"length with a needless digit, no body", "\x81\x00", api.ErrSyntax},
	{"great length with a needless digit", "\xc9\x81\x00", api.ErrSyntax},

	{"length of 201, no body", "\xc9\x01", api.ErrFull},
	{"length of 201, part of a body", "\xc9\x01" + strings.Repeat("a", 200), api.ErrFull},
	{"length of 201, no checksum", "\xc9\x01" + strings.Repeat("a", 201), api.ErrFull},
	{"frame of 201 bytes", "\xc9\x01" + strings.Repeat("a", 201) + number(checksum(strings.Repeat("a", 201))), api.ErrFull},
	{"length of 201, bad checksum", "\xc9\x01" + strings.Repeat("a", 201) + nines, api.ErrFull},
	{"greatest length", most, api.ErrFull},
	{"length of 2 to the power 62", number(1 << 62), api.ErrFull},
	{"length of 2 to the power 32", number(1 << 32), api.ErrFull},

	{"no body", "\x01", api.ErrNone},
	{"part of a body", "\x02a", api.ErrNone},
	{"no body of 200 bytes", "\xc8\x01", api.ErrNone},
	{"199 of 200 bytes", "\xc8\x01" + strings.Repeat("a", 199), api.ErrNone},
	{"199 of 200 bytes that are no checksum", "\xc8\x01" + strings.Repeat("\xff", 199), api.ErrNone},
	{"no checksum of nothing", "\x00", api.ErrNone},
	{"no checksum", "\x01a", api.ErrNone},
	{"no checksum of 200 bytes", "\xc8\x01" + strings.Repeat("a", 200), api.ErrNone},
	{"part of a checksum", "\x02ab\xc5\xc5", api.ErrNone},
	{"part of a wrong checksum", "\x02ab" + nines[:8], api.ErrNone},

	{"endless checksum", "\x01a" + nines, api.ErrSyntax},
	{"endless checksum of nothing", "\x00" + nines, api.ErrSyntax},
	{"checksum with a needless digit", "\x01a\xe2\x00", api.ErrSyntax},
	{"checksum of nothing with a needless digit", "\x00\x80\x00", api.ErrSyntax},
	{"wrong checksum with a needless digit", "\x01a\xe3\x00", api.ErrSyntax},

	{"checksum of nothing is 1", "\x00\x01", api.ErrSum},
	{"checksum is 0", "\x01a\x00", api.ErrSum},
	{"checksum is 1 less", "\x01aa", api.ErrSum},
	{"checksum is 1 more", "\x01ac", api.ErrSum},
	{"checksum is Modulo more", "\x01a" + number(98+1000003), api.ErrSum},
	{"checksum of nothing is Modulo", "\x00" + number(1000003), api.ErrSum},
	{"checksum is 2 to the power 32 more", "\x01a" + number(98+1<<32), api.ErrSum},
	{"checksum is the greatest number", "\x01a" + most, api.ErrSum},
	{"checksum of the frame without it", "\x01a" + number(checksum("\x01a")), api.ErrSum},
	{"wrong checksum of 200 bytes", "\xc8\x01" + strings.Repeat("a", 200) + "\x84\xef\x0f", api.ErrSum},
}

// 3.1: the errors of Read, and which of them goes first.
func TestReadErrors(t *testing.T) {
	for _, c := range readErrors {
		body, used, err := frame.Read(c.text)
		if body != "" || used != 0 || plain.Told(err) != c.want {
			t.Errorf("%s: Read(%q) = %q, %d, %v, want %v", c.name, c.text, body, used, err, c.want)
		}
	}
}

// 3.1: a frame that is cut off anywhere is ErrNone.
func TestReadCutOff(t *testing.T) {
	for _, c := range frames {
		for end := range len(c.text) {
			body, used, err := frame.Read(c.text[:end])
			if body != "" || used != 0 || plain.Told(err) != api.ErrNone {
				t.Fatalf("Read(%q) = %q, %d, %v, want ErrNone", c.text[:end], body, used, err)
			}
		}
	}
}

// 3.1: a frame of which one byte of the body is another one is ErrSum.
func TestReadChangedBody(t *testing.T) {
	for _, c := range frames {
		begin := len(number(len(c.body)))
		for i := range len(c.body) {
			for _, change := range []byte{1, 0x80, 0xff} {
				text := []byte(c.text)
				text[begin+i] ^= change
				body, used, err := frame.Read(string(text))
				if body != "" || used != 0 || plain.Told(err) != api.ErrSum {
					t.Fatalf("Read(%q) = %q, %d, %v, want ErrSum", text, body, used, err)
				}
			}
		}
	}
}

// 3.1: Read of all short texts does what the words say.
func TestReadAll(t *testing.T) {
	for _, s := range shortTexts() {
		body, used, err := frame.Read(s)
		wantBody, wantUsed, want := readSlowly(s)
		if body != wantBody || used != wantUsed || plain.Told(err) != want {
			t.Fatalf("Read(%q) = %q, %d, %v, want %q, %d, %v", s, body, used, err, wantBody, wantUsed, want)
		}
	}
}

// someFrames returns bodies, and their frames in a row.
func someFrames() ([]string, string) {
	var bodies []string
	var text strings.Builder
	for _, c := range frames {
		bodies = append(bodies, c.body)
		text.WriteString(c.text)
	}
	return bodies, text.String()
}

// 3.2: Scan reads frames until nothing is left.
func TestScan(t *testing.T) {
	all, allText := someFrames()
	cases := []struct {
		text string
		want []string
	}{
		{"", nil},
		{"\x00\x00", []string{""}},
		{"\x00\x00\x00\x00\x00\x00", []string{"", "", ""}},
		{"\x01ab", []string{"a"}},
		{"\x01ab\x02ab\xc5\xc5\x01", []string{"a", "ab"}},
		{"\x02ab\xc5\xc5\x01\x01ab", []string{"ab", "a"}},
		{"\x01ab\x01ab", []string{"a", "a"}},
		{"\x06\x02ab\xc5\xc5\x01\xbfk", []string{"\x02ab\xc5\xc5\x01"}},
		{allText, all},
		{strings.Repeat(allText, 20), slices.Repeat(all, 20)},
	}
	for _, c := range cases {
		bodies, used, err := frame.Scan(c.text)
		if !slices.Equal(bodies, c.want) || used != len(c.text) || err != nil {
			t.Errorf("Scan(%q) = %q, %d, %v, want %q, %d", c.text, bodies, used, err, c.want, len(c.text))
		}
	}
}

// 3.2: a text that is cut off is no error; the frames that are whole are read.
func TestScanCutOff(t *testing.T) {
	all, text := someFrames()
	whole, used := 0, 0
	for end := range len(text) + 1 {
		if whole < len(frames) && used+len(frames[whole].text) == end {
			used = end
			whole++
		}
		bodies, got, err := frame.Scan(text[:end])
		if !slices.Equal(bodies, all[:whole]) || got != used || err != nil {
			t.Fatalf("Scan of the first %d bytes = %q, %d, %v, want %q, %d", end, bodies, got, err, all[:whole], used)
		}
	}
}

// 3.2: any other error of Read comes with the bodies and the number of bytes
// before it; what is behind it is not read.
func TestScanErrors(t *testing.T) {
	all, allText := someFrames()
	before := []struct {
		bodies []string
		text   string
	}{
		{nil, ""},
		{[]string{""}, "\x00\x00"},
		{[]string{"a", "ab"}, "\x01ab\x02ab\xc5\xc5\x01"},
		{all, allText},
	}
	for _, b := range before {
		for _, c := range readErrors {
			want := c.want
			if want == api.ErrNone {
				want = api.OK
			}
			bodies, used, err := frame.Scan(b.text + c.text)
			if !slices.Equal(bodies, b.bodies) || used != len(b.text) || plain.Told(err) != want {
				t.Errorf("%s: Scan(%q) = %q, %d, %v, want %q, %d, %v", c.name, b.text+c.text, bodies, used, err, b.bodies, len(b.text), want)
			}
			if want == api.OK {
				continue
			}
			bodies, used, err = frame.Scan(b.text + c.text + allText)
			if !slices.Equal(bodies, b.bodies) || used != len(b.text) || plain.Told(err) != want {
				t.Errorf("%s, and more: Scan = %q, %d, %v, want %q, %d, %v", c.name, bodies, used, err, b.bodies, len(b.text), want)
			}
		}
	}
}

// 3.2: Scan of all short texts is one Read behind the other.
func TestScanAll(t *testing.T) {
	for _, s := range shortTexts() {
		bodies, used, err := frame.Scan(s)
		wantBodies, wantUsed, want := scanSlowly(s)
		if !slices.Equal(bodies, wantBodies) || used != wantUsed || plain.Told(err) != want {
			t.Fatalf("Scan(%q) = %q, %d, %v, want %q, %d, %v", s, bodies, used, err, wantBodies, wantUsed, want)
		}
	}
}

// 3.1, 3.2: lengths and checksums may be as great as an int is.
func TestGreatest(t *testing.T) {
	if number(math.MaxInt) != most {
		t.Fatalf("the greatest number is %q", number(math.MaxInt))
	}
	for _, s := range []string{most, most + most, "\x00" + most, "\x00" + most + most} {
		_, _, err := frame.Read(s)
		_, _, wrong := frame.Scan(s)
		if err == nil || plain.Told(err) != plain.Told(wrong) {
			t.Errorf("Read(%q): %v, Scan: %v", s, err, wrong)
		}
	}
}
