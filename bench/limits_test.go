package bench_test

import (
	"fmt"
	"strings"
	"testing"

	"penumbra/api"
	"penumbra/bench"
)

// most: how many bytes may be told.
const most = 1 << 20

// empty: the side of the scripts below, without a shape.
const empty = "side 64\n"

// telling: lines behind empty that tell just so many bytes: bins of noughts, many along (16, 15) and fewer along (0, 1), and 9, 7 and 3 bytes at a time.
func telling(t *testing.T, bytes int) string {
	t.Helper()
	var out strings.Builder
	for _, c := range []struct {
		line string
		size int
	}{{"see 16 15", 4 + 4*(63*31+1) + 1}, {"see 0 1", 4 + 4*64 + 1}, {"mass", 9}} {
		for bytes >= c.size+12 { // 12 and more are sevens and threes
			out.WriteString(c.line + "\n")
			bytes -= c.size
		}
	}
	for bytes%3 != 0 {
		out.WriteString("prove 5 7\n")
		bytes -= 7
	}
	for ; bytes > 0; bytes -= 3 {
		out.WriteString("none\n")
	}
	if bytes != 0 {
		t.Fatal("not just so many")
	}
	return out.String()
}

// P24.1: as many bytes as may be told, and one more: ErrLong, and nothing is told.
func TestMostTold(t *testing.T) {
	for by := -4; by <= 4; by++ {
		script := empty + telling(t, most+by-3)
		if by > 0 {
			tooLong(t, script)
			continue
		}
		out := checkScript(t, script)
		if len(out) != most+by {
			t.Fatalf("%d bytes are told, not %d", len(out), most+by)
		}
	}
	whole := empty + telling(t, most-3)
	want := play(t, whole)
	told(t, whole+"\n# nothing\n\n#", want)
	for _, name := range names() { // whatever is told behind that
		line := command(name, []int{1, 1, 1, 1, 1, 1}[:table()[name]]...)
		tooLong(t, whole+line)
		tooLong(t, whole+"#\n"+line+"\n#")
		tooLong(t, line+"\n"+whole)
	}
	refused(t, whole+"mass\nfoo", len(linesOf(whole))+2) // a script that is none tells nothing at all
}

// P24.1: what is beyond the limit by one command or by many, at the end or long ahead of it.
func TestMuchMoreTold(t *testing.T) {
	solid := "side 64\nrect 0 0 64 64 65536 -65536\ndir 16 15\ndir 15 16\ndir 16 13\ndir 13 16\ndir 11 16\n"
	tooLong(t, solid+strings.Repeat("solve\n", 30))
	grid := 8 + 64*(4+64*len(" 65536,-65536"))
	ahead := oks(7)
	many := (most - len(ahead)) / grid
	if out := play(t, solid+strings.Repeat("solve\n", many)); len(out) != len(ahead)+many*grid {
		t.Errorf("%d bytes", len(out))
	}
	tooLong(t, solid+strings.Repeat("solve\n", many+1))
	tooLong(t, solid+strings.Repeat("solve\n", many+1)+"none\nsolve\n")
	tooLong(t, empty+strings.Repeat("see 16 15\n", 511))
	tooLong(t, empty+strings.Repeat("see 16 15\n", 200)+strings.Repeat("mass\n", 311))
	if out, e := bench.Play(empty + strings.Repeat("see 16 1\n", 200)); e != api.OK || len(out) != 3+200*(4+4*(63*17+1)+1) {
		t.Errorf("%d bytes, error %d", len(out), e)
	}
}

// tall: 16 columns, each with a worth of its own, so that a slice of them is whole in the file though the one ahead is nearly the same, moved by two cells: 32 steps of 3 bytes a part in each row, and 32 of one.
func tall() string {
	script := "side 64\n"
	for i := range 16 {
		script += fmt.Sprintf("rect %d 0 1 64 %d %d\n", 2*i, 65535-1234*i, -65533+1357*i)
	}
	return script
}

// P24.1: a file that would have more than 2^20 bytes is told as too long, and stays as it is.
func TestMostBytesKept(t *testing.T) {
	const slice = 8 + 1 + 2 + 64*(32*6+32*2)
	script, want := tall(), oks(17)
	for i := range 63 {
		script += command("move", 2-i%2*4, 0) + "\nkeep\n"
		want += fmt.Sprintf("ok\nslices %d %d\n", i+1, (i+1)*slice)
	}
	if 64*slice <= most {
		t.Fatal("that is no more than there may be")
	}
	// The last slice is at 0 again, behind one that was moved on; a small one has room still.
	script += "move -2 0\nkeep\nsame 62\nmove 2 0\nsame 62\nside 1\nkeep\nkeep\nsame 63\n"
	want += fmt.Sprintf("ok\nerr 2\nno\nok\nyes\nok\nslices 64 %d\nerr 2\nyes\n", 63*slice+13)
	told(t, script, want)
}
