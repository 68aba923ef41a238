package bench_test

import (
	"fmt"
	"slices"
	"strings"
	"testing"

	"penumbra/api"
	"penumbra/bench"
	"penumbra/phantom"
	"penumbra/sample"
)

// names: of all commands, in one order.
func names() []string {
	var out []string
	for name := range table() {
		out = append(out, name)
	}
	slices.Sort(out)
	return out
}

// few: the beginning of a text, to name it for a failure.
func few(text string) string {
	if len(text) > 1500 {
		return fmt.Sprintf("%q .. (%d bytes)", text[:1500], len(text))
	}
	return fmt.Sprintf("%q", text)
}

// told: is that what Play tells, and does Check find no fault?
func told(t *testing.T, script, want string) {
	t.Helper()
	if at, e := bench.Check(script); at != 0 || e != api.OK {
		t.Fatalf("Check(%s): %d, error %d", few(script), at, e)
	}
	if got, e := bench.Play(script); got != want || e != api.OK {
		t.Fatalf("%s: %s, error %d, not %s", few(script), few(got), e, few(want))
	}
}

// tells: likewise, with / between the lines that are told, as the document writes it.
func tells(t *testing.T, script, want string) {
	t.Helper()
	told(t, script, strings.ReplaceAll(want, " / ", "\n")+"\n")
}

// play: what must be told.
func play(t *testing.T, script string) string {
	t.Helper()
	got, e := bench.Play(script)
	if e != api.OK {
		t.Fatalf("%s: error %d", few(script), e)
	}
	return got
}

// refused: by both calls, for the sake of the line of that number (0: of the whole).
func refused(t *testing.T, script string, at int) {
	t.Helper()
	if got, e := bench.Check(script); got != at || e != api.ErrScript {
		t.Fatalf("Check(%s): %d, error %d, not %d", few(script), got, e, at)
	}
	if got, e := bench.Play(script); got != "" || e != api.ErrScript {
		t.Fatalf("%s: %s, error %d", few(script), few(got), e)
	}
}

// tooLong: more is told than there may be.
func tooLong(t *testing.T, script string) {
	t.Helper()
	if at, e := bench.Check(script); at != 0 || e != api.OK {
		t.Fatalf("Check(%s): %d, error %d", few(script), at, e)
	}
	if got, e := bench.Play(script); got != "" || e != api.ErrLong {
		t.Fatalf("%s: %s, error %d", few(script), few(got), e)
	}
}

// checkScript: do both calls answer what the chapter's words do? It answers what is told.
func checkScript(t *testing.T, script string) string {
	t.Helper()
	at, want := ruledCheck(script)
	if got, e := bench.Check(script); got != at || e != want {
		t.Fatalf("Check(%s): %d, error %d, not %d, error %d", few(script), got, e, at, want)
	}
	text, want := ruledPlay(script)
	got, e := bench.Play(script)
	if got != text || e != want {
		t.Fatalf("%s: %s, error %d, not %s, error %d", few(script), few(got), e, few(text), want)
	}
	return got
}

// laid: the lines that make this phantom.
func laid(t *testing.T, p api.Phantom) string {
	t.Helper()
	text, e := phantom.Text(p)
	rest, found := strings.CutPrefix(text, "phantom ")
	if e != api.OK || !found {
		t.Fatalf("%v: %s, error %d", p, text, e)
	}
	return "side " + rest
}

// along: the lines that add these directions.
func along(dirs []api.Dir) string {
	var out strings.Builder
	for _, d := range dirs {
		fmt.Fprintf(&out, "dir %d %d\n", d.P, d.Q)
	}
	return out.String()
}

// lacking: the lines by which these places are missing.
func lacking(places []int) string {
	var out strings.Builder
	for _, place := range places {
		fmt.Fprintf(&out, "miss %d\n", place)
	}
	return out.String()
}

// shuffled: so many places, in any order.
func shuffled(many int, d *sample.Dice) []int {
	out := sample.Count(many)
	for i := range out {
		at := i + d.Number(many-1-i)
		out[i], out[at] = out[at], out[i]
	}
	return out
}

// oks: what so many commands tell that tell nothing else.
func oks(many int) string { return strings.Repeat("ok\n", many) }

// ends: of the numbers that a script may have, and numbers whose low halves look like small ones.
func ends() []int {
	return []int{-2147483648, -2147483647, -1 << 30, -65537, -65536, -1025, -1024, 1024, 1025, 65535, 65536, 65537, 1 << 20, 1<<20 + 1, 1 << 30, 2147483646, 2147483647}
}

// number: mostly from low to high, now and then any at all.
func number(d *sample.Dice, low, high int) int {
	switch d.Number(39) {
	case 0:
		return ends()[d.Number(len(ends())-1)]
	case 1:
		return d.Number(200) - 100
	}
	return low + d.Number(high-low)
}

// arguments: numbers for a command, most of them such that it does something with.
func arguments(name string, d *sample.Dice) []int {
	pick := func(low, high int) int { return number(d, low, high) }
	switch name {
	case "side":
		return []int{[]int{pick(1, 6), pick(1, 9), pick(1, 16), pick(14, 18), pick(60, 66)}[d.Number(4)]}
	case "rect", "wedge":
		return []int{pick(-3, 6), pick(-3, 6), pick(1, 9), pick(1, 9), pick(-10, 120), pick(-1, 8) / 8}
	case "disc":
		return []int{pick(-3, 6), pick(-3, 6), pick(0, 20), pick(-10, 120), pick(-1, 8) / 8}
	case "move":
		return []int{pick(-2, 2), pick(-2, 2)}
	case "dir", "see":
		return []int{pick(-3, 3), pick(-3, 3)}
	case "all":
		return []int{pick(0, 7)}
	case "miss":
		return []int{pick(-1, 8)}
	case "prove":
		return []int{pick(-9, 9), pick(-9, 9)}
	case "same":
		return []int{pick(-1, 4)}
	}
	return nil
}

// command: a line that is one.
func command(name string, n ...int) string {
	for _, v := range n {
		name += fmt.Sprintf(" %d", v)
	}
	return name
}

// anyLines: so many commands, or some more.
func anyLines(many int, d *sample.Dice) []string {
	all := append(names(), "rect", "rect", "disc", "wedge", "dir", "dir", "miss", "katz", "solve", "width", "keep", "same", "same")
	out := []string{command("side", 1+d.Number(6))}
	for range d.Number(7) / 7 * 15 { // now and then nearly as many shapes as there may be
		out = append(out, command("rect", d.Number(3), d.Number(3), 1+d.Number(3), 1+d.Number(3), d.Number(16), 0))
	}
	for len(out) < many {
		name := all[d.Number(len(all)-1)]
		if name == "none" && d.Number(3) > 0 || name == "side" && d.Number(1) > 0 {
			continue
		}
		out = append(out, command(name, arguments(name, d)...))
	}
	return out
}

// nothings: lines that say nothing.
func nothings() []string {
	return []string{"", "#", "# mass", "#mass", "##", "# ", "#\r", "#\t\x00\xff", "#side 5 # ..", "#\xe2\x98\x83"}
}

// joined: lines as a script, with or without a byte 10 behind the last.
func joined(lines []string, ended bool) string {
	out := strings.Join(lines, "\n")
	if ended && len(lines) > 0 || len(lines) > 0 && lines[len(lines)-1] == "" {
		out += "\n"
	}
	return out
}
