package bench_test

import (
	"slices"
	"strings"
	"testing"

	"penumbra/sample"
)

// good: a line of each command, with numbers of every length among them.
func good() []string {
	return []string{
		"side 12", "rect 0 -1 20 3 -456 7", "disc 1 -23 4 0 -5", "wedge -1 2 34 5 6 -789", "move -10 0", "dir 0 -1", "all 3", "none", "miss 0", "mass", "moment",
		"see -2147483648 2147483647", "katz", "solve", "width", "prove -1 10", "pack", "keep", "same 100",
	}
}

// P24.1: every name with as many numbers as it has, and none with another count of them.
func TestCounts(t *testing.T) {
	for _, name := range names() {
		for many := range 9 {
			line := name + strings.Repeat(" 1", many)
			if many == table()[name] {
				if out := checkScript(t, line); out == "" {
					t.Errorf("%q tells nothing", line)
				}
				continue
			}
			for _, number := range []string{"1", "0", "-7"} {
				refused(t, name+strings.Repeat(" "+number, many), 1)
			}
		}
		refused(t, name+strings.Repeat(" 1", 30000), 1)
	}
}

// P24.1: words that no command begins with, alone and ahead of numbers.
func TestNoNames(t *testing.T) {
	words := []string{"foo", "MASS", "Mass", "mas", "masss", "mass1", "1mass", "-mass", "mass#", "!mass", "sid", "sides", "side2", "circle", "ok", "err", "row", "grid", "bins", "katz:", "0", "1", "-1", "-", "+", "\x00", "mass\x00", "m\u00e4ss", "\uff4dass", "\ufeffmass", "none,", "solve;", "phantom", "//", "''"}
	for _, name := range names() {
		words = append(words, name[:len(name)-1], name+name, strings.ToUpper(name), strings.ToUpper(name[:1])+name[1:], name+"_", "_"+name, name+"\x00", name+".")
	}
	for _, word := range words {
		if _, there := table()[word]; there {
			continue
		}
		for many := range 7 {
			refused(t, word+strings.Repeat(" 1", many), 1)
		}
	}
	for _, pair := range []string{"mass moment", "mass mass", "none none", "side one", "side side 2", "side 2 mass", "dir 1 0 # to the right", "mass # all", "side 2 #", "mass#"} {
		refused(t, pair, 1)
	}
}

// P24.1: numbers, at every place of every command that has some.
func TestNumbers(t *testing.T) {
	yes := []string{"0", "1", "-1", "9", "-9", "10", "-10", "99", "100", "-100", "1000000000", "999999999", "2147483646", "2147483647", "-2147483647", "-2147483648"}
	no := []string{
		"-0", "+0", "+1", "+", "-", "--1", "-+1", "+-1", "00", "01", "-00", "-01", "007", "-010", "0000000000001", "02147483647", "-02147483648", "2147483648", "2147483649", "-2147483649", "-2147483650", "3000000000", "9999999999", "21474836470", "4294967295", "4294967296", "4294967297",
		"-4294967296", "9223372036854775807", "9223372036854775808", "-9223372036854775808", "-9223372036854775809", "18446744073709551615", "18446744073709551616", "18446744073709551617", "340282366920938463463374607431768211457", strings.Repeat("9", 5000), "1" + strings.Repeat("0", 5000), strings.Repeat("0", 5000), "-" + strings.Repeat("1", 60000),
		"1.0", "1.", ".5", "1e3", "1E3", "0x1", "0X1", "0b1", "0o7", "0_1", "1_000", "_1", "1_", "1,000", "1-", "1+", "1-1", "1/1", "1i", "one", "nan", "NaN", "inf", "Inf", "-inf", "true", "x", "0x", "1x", "x1", "#", "1#",
		"\u0661", "\uff11", "\u00b2", "\u22121", "\u20131", "1\x00", "\x001", "1\t", "\t1", "1\r", "\r1", "1\v", "1\f", "1\u00a0", "\u00a01", "1\xff", "\xff", "\x80", "1\u2003", "1\x7f",
	}
	for _, name := range names() {
		many := table()[name]
		for place := range many {
			with := func(word string) string {
				words := slices.Repeat([]string{"1"}, many)
				words[place] = word
				return name + " " + strings.Join(words, " ")
			}
			for _, word := range yes {
				checkScript(t, with(word))
				if !isCommand(with(word)) {
					t.Errorf("%q is no command", with(word))
				}
			}
			for _, word := range no {
				refused(t, with(word), 1)
				refused(t, "mass\n#\n"+with(word)+"\nmass", 3)
			}
		}
	}
}

// P24.1: blanks ahead, behind, doubled, left out, and other bytes in their place.
func TestBlanks(t *testing.T) {
	for _, line := range good() {
		checkScript(t, line)
		refused(t, " "+line, 1)
		refused(t, line+" ", 1)
		refused(t, "  "+line+"  ", 1)
		refused(t, line+strings.Repeat(" ", 60000), 1)
		for i := range len(line) {
			if line[i] != ' ' {
				continue
			}
			for _, between := range []string{"", "  ", "   ", "\t", " \t", "\t ", ",", ", ", "\r", "\x00", "\u00a0", "\v", "_", "=", "  \t  "} {
				refused(t, line[:i]+between+line[i+1:], 1)
			}
		}
	}
	for _, blank := range []string{" ", "  ", strings.Repeat(" ", 65000), "\t", "\r", "\r\n", "\x00", "\v", "\f", "\u00a0", "\u2028", "\ufeff", " #", "\t#", "\r#", "\x00#", " # mass", " \n"} {
		refused(t, blank, 1)
		refused(t, "#\n"+blank, 2)
	}
}

// P24.1: every byte put in at every place of a line, and in the place of every byte of it.
func TestEveryByte(t *testing.T) {
	for _, line := range good() {
		for b := range 256 {
			for i := range len(line) + 1 {
				checkScript(t, line[:i]+string([]byte{byte(b)})+line[i:])
				if i < len(line) {
					checkScript(t, line[:i]+string([]byte{byte(b)})+line[i+1:])
				}
			}
		}
		for i := range len(line) {
			checkScript(t, line[:i]+line[i+1:])
		}
	}
}

// P24.1: a line that begins with # may hold any bytes but a 10.
func TestRemarks(t *testing.T) {
	for b := range 256 {
		if b == 10 {
			continue
		}
		any := string([]byte{byte(b)})
		told(t, "#"+any+"\nmass\n#"+any+any, "mass 0,0\n")
		told(t, "mass\n# foo "+any+" 1 2 3", "mass 0,0\n")
	}
	refused(t, "#\nfoo\n#", 2)
	refused(t, "#foo\n #foo", 2)
}

// P24.1: a last byte 10 ends a line and begins none; one ahead of it does.
func TestLastByte(t *testing.T) {
	for _, line := range good() {
		want := checkScript(t, line)
		for _, script := range []string{line + "\n", line + "\n\n", "\n" + line, "\n\n" + line + "\n\n\n", line + "\n#", "#\n" + line + "\n#\n"} {
			told(t, script, want)
		}
		told(t, line+"\nmass", want+play(t, line+"\nmass\n")[len(want):])
	}
	for _, script := range []string{"foo", "foo\n", "foo\n\n", "foo\nfoo"} {
		refused(t, script, 1)
		refused(t, "\n"+script, 2)
		refused(t, "mass\n\n"+script, 3)
	}
	refused(t, "mass\r\nmass\r\n", 1)
	refused(t, "mass\n\r", 2)
	refused(t, "mass\n ", 2)
}

// P24.1: of several lines that are none the first one's number is told, from 1 on, whatever stands ahead of it.
func TestFirstWrongLine(t *testing.T) {
	d := sample.Dice(303)
	wrong := []string{"foo", " mass", "mass ", "side", "side 1 2", "side 01", "\t", " ", "dir 1  0", "mass\r"}
	fine := append(good(), nothings()...)
	for round := range 4000 {
		lines := make([]string, 1+d.Number(30))
		if round%100 == 0 {
			lines = make([]string, 512)
		}
		for i := range lines {
			lines[i] = fine[d.Number(len(fine)-1)]
		}
		first := d.Number(len(lines) - 1)
		for _, at := range []int{first, first + d.Number(len(lines)-1-first), first + d.Number(len(lines)-1-first)} {
			lines[at] = wrong[d.Number(len(wrong)-1)]
		}
		refused(t, joined(lines, d.Number(1) == 0), first+1)
	}
	for at := range 512 {
		lines := slices.Repeat([]string{"mass"}, 512)
		lines[at] = "foo"
		refused(t, joined(lines, true), at+1)
		refused(t, joined(lines[:at+1], false), at+1)
	}
}

// P24.1: as many bytes as there may be, and one more, of one line and of many, with and without a line that is none.
func TestMostBytes(t *testing.T) {
	const most = 65536
	for _, c := range []struct{ head, fill, end string }{
		{"#", "x", ""}, {"#", "x", "\n"}, {"", "#xxxxxxxxxxxxxxxxxxxxxxxxxxxxxxxxxxxxxxxxxxxxxxxxxxxxxxxxxxxxxxxxxxxxxxxxxxxxxxxxxxxxxxxxxxxxxxxxxxxxxxxxxxxxxxxxxxxxxxxxxxxxxxxxxxxxxxxxxxxxxxxxxxxxxxxx\n", ""}, {"mass\n#", " ", "\nmass"}, {"mass\n#", "\xff", "\nmass\n"},
	} {
		for _, by := range []int{-2, -1, 0, 1, 2, 1000} {
			room := most + by - len(c.head) - len(c.end)
			middle := strings.Repeat(c.fill, room/len(c.fill))
			script := c.head + middle + strings.Repeat("#", room-len(middle)) + c.end
			if len(script) != most+by {
				t.Fatalf("%d bytes", len(script))
			}
			checkScript(t, script)
			if by > 0 {
				refused(t, script, 0)
			} else {
				told(t, script, strings.Repeat("mass 0,0\n", strings.Count(script, "mass")))
			}
		}
	}
	refused(t, "foo\n#"+strings.Repeat("x", most-5), 1)
	refused(t, "foo\n#"+strings.Repeat("x", most-4), 0)
	refused(t, strings.Repeat("x", most), 1)
	refused(t, strings.Repeat("x", most+1), 0)
	refused(t, strings.Repeat(" ", most+1), 0)
	refused(t, strings.Repeat("\n", most), 0) // too many lines
	refused(t, strings.Repeat("\n", most+1), 0)
	refused(t, strings.Repeat("x", 1<<24), 0)
}

// P24.1: as many lines as there may be, and one more; also such that say nothing, and with one that is none.
func TestMostLines(t *testing.T) {
	for _, line := range append(nothings(), "mass") {
		want := strings.Repeat("mass 0,0\n", 512)
		if silent(line) {
			want = ""
		}
		told(t, strings.Repeat(line+"\n", 512), want)
		refused(t, strings.Repeat(line+"\n", 513), 0)
		refused(t, strings.Repeat(line+"\n", 514), 0)
		refused(t, strings.Repeat(line+"\n", 5000), 0)
		told(t, strings.Repeat(line+"\n", 511)+"#", want[:len(want)/512*511])
		refused(t, strings.Repeat(line+"\n", 512)+"#", 0)
		refused(t, strings.Repeat(line+"\n", 512)+"\n", 0)
		refused(t, strings.Repeat(line+"\n", 512)+"foo", 0)
		refused(t, "foo\n"+strings.Repeat(line+"\n", 511), 1)
		refused(t, "foo\n"+strings.Repeat(line+"\n", 512), 0)
		refused(t, strings.Repeat(line+"\n", 511)+"foo", 512)
		refused(t, strings.Repeat(line+"\n", 511)+"foo\n", 512)
		refused(t, strings.Repeat(line+"\n", 512)+"foo\n", 0)
	}
}

// P24.1: scripts with some bytes turned, left out, put in or exchanged.
func TestTurnedScripts(t *testing.T) {
	d := sample.Dice(304)
	put := []string{"\n", " ", "#", "0", "-", "1", "2", "3", "5", "9", "\t", "x", "\r", "  ", "\n\n", " 1", "mass", "\xff"}
	count := map[bool]int{}
	for range 6000 {
		script := joined(anyLines(1+d.Number(6), &d), d.Number(1) == 0)
		for range 1 + d.Number(4)/4 {
			i := d.Number(len(script) - 1)
			switch d.Number(2) {
			case 0:
				script = script[:i] + put[d.Number(len(put)-1)] + script[i:]
			case 1:
				script = script[:i] + script[i+1:] + "\n"
			case 2:
				script = script[:i] + put[d.Number(len(put)-1)] + script[i+1:]
			}
		}
		checkScript(t, script)
		_, e := ruledCheck(script)
		count[e == 0]++
	}
	if min(count[true], count[false]) < 500 {
		t.Errorf("the samples are too much alike: %v", count)
	}
}
