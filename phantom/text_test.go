package phantom_test

import (
	"fmt"
	"strings"
	"testing"

	"penumbra/api"
	"penumbra/phantom"
	"penumbra/sample"
)

// reads: does Parse answer what the rules say?
func reads(t *testing.T, s string) {
	t.Helper()
	got, e := phantom.Parse(s)
	want, ok := written(s)
	if !ok && (e != api.ErrPage || !noPhantom(got)) || ok && (e != api.OK || !sample.SamePhantom(got, want)) {
		t.Fatalf("%.200q: %v, error %d, not %v, %v", s, got, e, want, ok)
	}
}

// noPage: is it refused, whatever the rules of the tests say?
func noPage(t *testing.T, s string) {
	t.Helper()
	reads(t, s)
	got, e := phantom.Parse(s)
	refused(t, fmt.Sprintf("%.200q", s), noPhantom(got), e, api.ErrPage)
}

// P8.1: texts of all sides, of shapes of each kind with each worth, and of up to 16 of them.
func TestText(t *testing.T) {
	for n := 1; n <= 64; n++ {
		for _, p := range sample.Phantoms(n) {
			if got, e := phantom.Text(p); right(t, got, e) != told(p) {
				t.Fatalf("%v: %q", p, got)
			}
			reads(t, told(p))
		}
	}
	for _, s := range sample.Shapes() {
		for _, s.Worth = range sample.Worths() {
			p := sample.Phantom(5, s, s)
			if got, e := phantom.Text(p); right(t, got, e) != told(p) {
				t.Fatalf("%v: %q", p, got)
			}
			reads(t, told(p))
		}
	}
}

// P8.1: texts that are written out, each of a phantom.
func TestTextWrittenOut(t *testing.T) {
	for s, p := range map[string]api.Phantom{
		"phantom 1\n":                               sample.Phantom(1),
		"phantom 64\n":                              sample.Phantom(64),
		"phantom 10\nrect 0 0 1 1 0 0\n":            sample.Phantom(10, sample.Rect(0, 0, 1, 1, 0)),
		"phantom 2\ndisc -1 -20 0 -300 0\n":         sample.Phantom(2, sample.Disc(-1, -20, 0, -300)),
		"phantom 7\nwedge -7 8 9 10 -65536 65536\n": sample.Phantom(7, sample.Wedge(-7, 8, 9, 10, -65536+65536i)),
		"phantom 9\ndisc -1024 1024 1048576 0 -1\n": sample.Phantom(9, sample.Disc(-1024, 1024, 1048576, -1i)),
		"phantom 3\nrect 1 2 3 4 5 6\nrect 1 2 3 4 5 6\nwedge 1 2 3 4 5 6\ndisc 1 2 3 4 5\n": sample.Phantom(3, sample.Rect(1, 2, 3, 4, 5+6i), sample.Rect(1, 2, 3, 4, 5+6i), sample.Wedge(1, 2, 3, 4, 5+6i), sample.Disc(1, 2, 3, 4+5i)),
	} {
		if got, e := phantom.Text(p); right(t, got, e) != s {
			t.Errorf("%v: %q", p, got)
		}
		if got, e := phantom.Parse(s); !sample.SamePhantom(right(t, got, e), p) {
			t.Errorf("%q: %v", s, got)
		}
	}
}

// pages: texts with every word, short and long numbers, noughts and numbers below 0.
func pages() []string {
	return []string{
		"phantom 4\n", "phantom 64\n", "phantom 4\nrect 1 1 2 2 5 -1\ndisc 0 0 1 2 0\n", "phantom 10\nwedge -1024 10 3 1024 0 -65536\nrect -1 0 10 1 65536 0\n", "phantom 1\ndisc 0 -10 1048576 -1 0\nwedge 0 0 1 1 0 0\n",
		told(sample.Phantom(20, sample.Many(16)...)), told(sample.AnyPhantoms(30, 1)[0]),
	}
}

// P8.1, P8.4: texts cut short at every byte, from behind and from ahead.
func TestCutShort(t *testing.T) {
	for _, s := range pages() {
		for i := range len(s) {
			if i == 0 || s[i-1] != '\n' {
				noPage(t, s[:i])
			} else { // lines that end are another phantom's
				reads(t, s[:i])
				got, e := phantom.Parse(s[:i])
				right(t, got, e)
			}
			if i > 0 {
				noPage(t, s[i:])
			}
		}
	}
}

// bytesFor: those that may be mistaken for others; of short texts all there are.
func bytesFor(s string) []byte {
	if len(s) > 60 {
		return []byte("\x00\t\n\v\f\r +-.,_019:@aeptxRN\x7f\x80\x85\xa0\xc2\xff")
	}
	var out []byte
	for b := range 256 {
		out = append(out, byte(b))
	}
	return out
}

// P8.1, P8.4: one byte more, less, another one, or two of them exchanged, at every place.
func TestOneByte(t *testing.T) {
	for _, s := range pages() {
		for i := range len(s) + 1 {
			for _, b := range bytesFor(s) {
				reads(t, s[:i]+string([]byte{b})+s[i:])
				if i < len(s) {
					reads(t, s[:i]+string([]byte{b})+s[i+1:])
				}
			}
			if i < len(s) {
				reads(t, s[:i]+s[i+1:])
				reads(t, s[:i]+s[i:i+1]+s[i:])
			}
			if i+1 < len(s) {
				reads(t, s[:i]+s[i+1:i+2]+s[i:i+1]+s[i+2:])
			}
		}
	}
}

// each: s with each of the words in the place of one of its own, as many texts as there are both.
func each(s string, words ...string) []string {
	var out []string
	lines := strings.Split(strings.TrimSuffix(s, "\n"), "\n")
	for i, line := range lines {
		old := strings.Split(line, " ")
		for j := range old {
			for _, word := range words {
				now := append([]string{}, old...)
				now[j] = word
				all := append([]string{}, lines...)
				all[i] = strings.Join(now, " ")
				out = append(out, strings.Join(all, "\n")+"\n")
			}
		}
	}
	return out
}

// P8.1: numbers that are written otherwise, or are none, at every place of one.
func TestNoNumbers(t *testing.T) {
	for _, s := range pages()[:5] {
		for _, broken := range each(s, "", " ", "+1", "-0", "+0", "00", "01", "-01", "007", "--1", "-", "+", "1.0", "1.", ".5", "1e1", "0x1", "0b1", "0o1", "1_0", "1,0", "1i", "1L", "one", "NaN", "Inf", "-Inf", "١", "１", "²", "−1", "1\u00a0", "\ufeff1", "1\x00", "\xff", "1\r", "\t1", "1 ", " 1", "1 1",
			"9223372036854775807", "9223372036854775808", "-9223372036854775808", "-9223372036854775809", "18446744073709551616", "18446744073709551617", "4294967297", "99999999999999999999", "340282366920938463463374607431768211457", strings.Repeat("1", 400)) {
			noPage(t, broken)
		}
		for _, other := range each(s, "0", "1", "-1", "2", "64", "65", "-64", "1024", "1025", "-1024", "-1025", "65536", "65537", "-65536", "-65537", "1048576", "1048577", "131073") {
			reads(t, other)
		}
	}
}

// P8.1: other words, other letters, other blanks, other ends of lines.
func TestNoForm(t *testing.T) {
	for _, s := range pages()[2:] {
		for _, change := range [][2]string{
			{"phantom", "Phantom"}, {"phantom", "PHANTOM"}, {"phantom", "phantoms"}, {"phantom", "phanto"}, {"phantom", ""}, {"phantom ", "phantom"}, {"phantom", " phantom"}, {"phantom", "\ufeffphantom"}, {"phantom", "\nphantom"}, {"phantom", "rect"}, {"phantom", "phantom 4\nphantom"},
			{" ", "  "}, {" ", "\t"}, {" ", "\u00a0"}, {" ", ""}, {" ", "\n"}, {" ", ","}, {" ", "\r"}, {" ", "\v"}, {" ", " \t"}, {" ", "\x00"},
			{"\n", "\r\n"}, {"\n", "\r"}, {"\n", "\n\n"}, {"\n", " \n"}, {"\n", "\n "}, {"\n", ""}, {"\n", " "}, {"\n", "\x00"}, {"\n", "\u2028"}, {"\n", "\x85"}, {"\n", ";"}, {"\n", "\t\n"}, {"\n", "\n#\n"}, {"\n", "\n\x00"},
		} {
			noPage(t, strings.Replace(s, change[0], change[1], 1))
			noPage(t, strings.ReplaceAll(s, change[0], change[1]))
			if last := strings.LastIndex(s, change[0]); last > 0 {
				noPage(t, s[:last]+change[1]+s[last+len(change[0]):])
			}
		}
	}
	for _, word := range []string{"Rect", "RECT", "rects", "rec", "", "Disc", "DISC", "disk", "dis", "Wedge", "WEDGE", "wedg", "wedges", "phantom", "shape", "1", "rect\x00", "rect\t", "ｒect"} {
		noPage(t, "phantom 4\n"+word+" 1 1 2 2 5 -1\n")
		noPage(t, "phantom 4\n"+word+" 1 1 2 5 -1\n")
		noPage(t, "phantom 4\nrect 1 1 2 2 5 -1\n"+word+" 1 1 2 2 5 -1\n")
	}
	for _, s := range []string{"\n", " ", "\x00", "phantom", "phantom\n", "phantom \n", "phantom 4 \n", " phantom 4\n", "4\n", "rect 1 1 1 1 1 1\n", "rect 1 1 1 1 1 1\nphantom 4\n", "phantom 4\nphantom 4\n", "phantom 4\n\x00", "\xff\xfe", "phantom \xff\n", "\xffphantom 4\n", "phantom 4\n\xff\n", "phantom 4\nrect 1 1 2 2 5 \xff1\n", "phantom 4\nrect\xc3 1 1 2 2 5 1\n", "phantom 4\n\xed\xa0\x80", "phantom 4\nrect 1 1 2 2 5 -1", "phantom 4\nrect 1 1 2 2 5 -1\n\n"} {
		noPage(t, s)
	}
}

// P8.1: as many numbers as the kind has, not one less, not one more.
func TestFields(t *testing.T) {
	for word, count := range map[string]int{"phantom": 1, "rect": 6, "disc": 5, "wedge": 6} {
		for k := range 12 {
			s := "phantom 4\n" + word + strings.Repeat(" 1", k) + "\n"
			if word == "phantom" {
				s = word + strings.Repeat(" 1", k) + "\n"
			}
			if k != count {
				noPage(t, s)
				noPage(t, s+"disc 1 1 1 1 1\n")
				continue
			}
			got, e := phantom.Parse(s)
			right(t, got, e)
			reads(t, s)
		}
	}
}

// P8.1: texts of phantoms that aren't sound have the form, but are none's text.
func TestTextsOfUnsound(t *testing.T) {
	for _, n := range append(sample.NoSides(), 1000) {
		noPage(t, fmt.Sprintf("phantom %d\n", n))
		noPage(t, fmt.Sprintf("phantom %d\nrect 1 1 1 1 1 1\n", n))
	}
	for _, s := range sample.NoShapes() {
		if s.Kind >= 1 && s.Kind <= 3 && (s.Kind != api.Disc || s.B == 0) {
			noPage(t, told(sample.Phantom(4, s)))
			noPage(t, told(sample.Phantom(4, sample.Shapes()[0], s, sample.Shapes()[1])))
		}
	}
	for _, w := range []complex128{65537, -65537, 65537i, -65537i, 1 << 40, -1 << 62, 65536 + 1e6i} {
		for _, s := range sample.Shapes() {
			s.Worth = w
			noPage(t, told(sample.Phantom(4, s)))
			noPage(t, told(sample.Phantom(4, sample.Shapes()[0], s, sample.Shapes()[1])))
		}
	}
	for k := range 40 {
		s := told(sample.Phantom(4, sample.Many(k)...))
		if got, e := phantom.Parse(s); k <= 16 {
			right(t, got, e)
		} else {
			refused(t, s, noPhantom(got), e, api.ErrPage)
		}
		reads(t, s)
	}
}

// P8.1: long texts, of lines, of words and of one word, and what has the greatest number of bytes of a text.
func TestLongTexts(t *testing.T) {
	for _, k := range []int{1000, 65536, 1 << 20, 1 << 23} {
		for _, s := range []string{strings.Repeat(" ", k), strings.Repeat("\n", k), strings.Repeat("1", k), strings.Repeat("phantom 4\n", k/10), "phantom 4\n" + strings.Repeat("disc 0 0 1 1 0\n", k/15), "phantom " + strings.Repeat("0", k) + "4\n", "phantom 4" + strings.Repeat(" 1", k/2) + "\n", "phantom 4\nrect 1 1 1 1 1 " + strings.Repeat("1", k) + "\n", strings.Repeat("\x00", k), "phantom 4\n" + strings.Repeat("\xff", k)} {
			got, e := phantom.Parse(s)
			refused(t, fmt.Sprintf("%d bytes, %.20q", len(s), s), noPhantom(got), e, api.ErrPage)
		}
	}
	// The longest text that there is.
	all := make([]api.Shape, 16)
	for i := range all {
		all[i] = sample.Rect(-1024, -1024, 1024, 1024, -65536-65536i)
		if i%2 == 1 {
			all[i] = sample.Disc(-1024, -1024, 1048576, -65536-65536i)
		}
		if i%3 == 1 {
			all[i] = sample.Wedge(-1024, -1024, 1024, 1024, -65536-65536i)
		}
	}
	got, e := phantom.Parse(told(sample.Phantom(64, all...)))
	if !sample.SamePhantom(right(t, got, e), sample.Phantom(64, all...)) {
		t.Error(got)
	}
}
