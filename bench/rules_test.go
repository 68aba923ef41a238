package bench_test

import (
	"fmt"
	"math/big"
	"regexp"
	"slices"
	"strconv"
	"strings"

	"penumbra/api"
	"penumbra/bound"
	"penumbra/closed"
	"penumbra/dir"
	"penumbra/pack"
	"penumbra/peel"
	"penumbra/phantom"
	"penumbra/sample"
	"penumbra/scan"
	"penumbra/torus"
	"penumbra/vault"
)

// The chapter's words as they stand, by the calls that its table names.

// table: the commands, each with how many numbers it has.
func table() map[string]int {
	return map[string]int{
		"side": 1, "rect": 6, "disc": 5, "wedge": 6, "move": 2, "dir": 2, "all": 1, "none": 0, "miss": 1, "mass": 0, "moment": 0,
		"see": 2, "katz": 0, "solve": 0, "width": 0, "prove": 2, "pack": 0, "keep": 0, "same": 1,
	}
}

// linesOf: cut at each byte 10; what stands behind the last one counts if it isn't empty.
func linesOf(script string) []string {
	var out []string
	from := 0
	for i := range len(script) {
		if script[i] == 10 {
			out = append(out, script[from:i])
			from = i + 1
		}
	}
	if from < len(script) {
		out = append(out, script[from:])
	}
	return out
}

// silent: a line that says nothing.
func silent(line string) bool { return len(line) == 0 || line[0] == 35 }

var shapeOfLine = regexp.MustCompile(`\A([a-z]+)((?: (?:0|-?[1-9][0-9]*))*)\z`)

// isCommand: a name, and as many numbers as stand in the table.
func isCommand(line string) bool {
	parts := shapeOfLine.FindStringSubmatch(line)
	if parts == nil {
		return false
	}
	numbers := strings.Fields(parts[2])
	for _, word := range numbers {
		n, _ := new(big.Int).SetString(word, 10)
		if n.Cmp(big.NewInt(-2147483648)) < 0 || n.Cmp(big.NewInt(2147483647)) > 0 {
			return false
		}
	}
	many, there := table()[parts[1]]
	return there && many == len(numbers)
}

// ruledCheck: what Check is to answer.
func ruledCheck(script string) (int, api.Errno) {
	lines := linesOf(script)
	if len(script) > 65536 || len(lines) > 512 {
		return 0, api.ErrScript
	}
	for i, line := range lines {
		if !silent(line) && !isCommand(line) {
			return i + 1, api.ErrScript
		}
	}
	return 0, api.OK
}

// ruledPlay: what Play is to answer.
func ruledPlay(script string) (string, api.Errno) {
	if _, e := ruledCheck(script); e != api.OK {
		return "", e
	}
	s := state{p: api.Phantom{N: 1}}
	var told strings.Builder
	for _, line := range linesOf(script) {
		if silent(line) {
			continue
		}
		next, text, e := s.after(line)
		if e != api.OK {
			fmt.Fprintf(&told, "err %d\n", int(e))
			continue
		}
		s = next
		told.WriteString(text + "\n")
	}
	if told.Len() > 1048576 {
		return "", api.ErrLong
	}
	return told.String(), api.OK
}

// A state is what is kept, as a value: a command makes another one.
type state struct {
	p       api.Phantom
	dirs    []api.Dir
	missing []bool // of each direction
	file    []byte
}

// after: the state behind a command, and what that tells.
func (s state) after(line string) (state, string, api.Errno) {
	words := strings.Split(line, " ")
	var n []int
	for _, word := range words[1:] {
		v, _ := strconv.Atoi(word)
		n = append(n, v)
	}
	switch words[0] {
	case "rect":
		return s.with(api.Shape{Kind: api.Rect, X: n[0], Y: n[1], A: n[2], B: n[3], Worth: complex(float64(n[4]), float64(n[5]))})
	case "disc":
		return s.with(api.Shape{Kind: api.Disc, X: n[0], Y: n[1], A: n[2], Worth: complex(float64(n[3]), float64(n[4]))})
	case "wedge":
		return s.with(api.Shape{Kind: api.Wedge, X: n[0], Y: n[1], A: n[2], B: n[3], Worth: complex(float64(n[4]), float64(n[5]))})
	case "side", "move", "dir", "all", "none", "miss":
		next, e := s.changed(words[0], n)
		return next, "ok", e
	case "keep":
		return s.kept()
	}
	text, e := s.tells(words[0], n)
	return s, text, e
}

// with: one shape more.
func (s state) with(shape api.Shape) (state, string, api.Errno) {
	s.p = api.Phantom{N: s.p.N, Shapes: slices.Concat(s.p.Shapes, []api.Shape{shape})}
	return s, "ok", phantom.Check(s.p)
}

// changed: behind a command that tells nothing but that.
func (s state) changed(name string, n []int) (next state, e api.Errno) {
	switch name {
	case "side":
		s.p = api.Phantom{N: n[0]}
		if n[0] < 1 || n[0] > 64 {
			e = api.ErrArg
		}
	case "move":
		s.p, e = phantom.Moved(s.p, n[0], n[1])
	case "dir":
		var d api.Dir
		d, e = dir.Normal(n[0], n[1])
		if e == api.OK && len(s.dirs) >= 64 {
			e = api.ErrLong
		}
		if e == api.OK && slices.Contains(s.dirs, d) {
			e = api.ErrTwice
		}
		s.dirs, s.missing = slices.Concat(s.dirs, []api.Dir{d}), slices.Concat(s.missing, []bool{false})
	case "all":
		s.dirs, e = dir.All(n[0])
		s.missing = make([]bool, len(s.dirs))
		if len(s.dirs) > 64 {
			e = api.ErrLong
		}
	case "none":
		s.dirs, s.missing = nil, nil
	case "miss":
		if n[0] < 0 || n[0] >= len(s.dirs) || s.missing[n[0]] {
			return s, api.ErrPlan
		}
		s.missing = slices.Clone(s.missing)
		s.missing[n[0]] = true
	}
	return s, e
}

// kept: with the Raster in the file.
func (s state) kept() (state, string, api.Errno) {
	raster, _ := phantom.Raster(s.p)
	file, e := vault.Add(s.file, raster)
	s.file = file
	slices, _ := vault.Slices(file)
	return s, fmt.Sprintf("slices %d %d", len(slices), len(file)), e
}

// seen: the directions that aren't missing, and the places of those that are.
func (s state) seen() (dirs []api.Dir, missing []int) {
	for place, d := range s.dirs {
		if s.missing[place] {
			missing = append(missing, place)
		} else {
			dirs = append(dirs, d)
		}
	}
	return dirs, missing
}

// numbers: a word, then both parts of each.
func numbers(word string, list ...complex128) string {
	out := []byte(word)
	for _, v := range list {
		out = fmt.Appendf(out, " %.0f,%.0f", real(v), imag(v))
	}
	return string(out)
}

// tells: what a command tells that changes nothing.
func (s state) tells(name string, n []int) (string, api.Errno) {
	dirs, missing := s.seen()
	raster, _ := phantom.Raster(s.p)
	switch name {
	case "mass":
		sum, e := phantom.Mass(s.p)
		return numbers("mass", sum), e
	case "moment":
		x, y, e := closed.Moment(s.p)
		return numbers("moment", x, y), e
	case "see":
		d, e := dir.Normal(n[0], n[1])
		if e != api.OK {
			return "", e
		}
		proj, e := closed.Project(s.p, d)
		return numbers("bins", proj.Bins...), e
	case "katz":
		enough, _ := dir.Katz(s.p.N, dirs)
		open, e := peel.Left(s.p.N, dirs)
		return fmt.Sprintf("katz %s %d", map[bool]string{true: "yes", false: "no"}[enough], open), e
	case "solve":
		r, e := scan.Run(s.p, api.Plan{Dirs: s.dirs, Missing: missing, Workers: 1})
		if r.Open > 0 {
			return fmt.Sprintf("few %d", r.Open), e
		}
		return gridText(r.Grid), e
	case "width":
		return s.wide(dirs)
	case "prove":
		far, e := torus.Prove(raster, n[0], n[1])
		most, _ := torus.Bound(s.p.N)
		return map[bool]string{true: "proved", false: "beyond"}[far <= most], e
	case "pack":
		way, _ := pack.Way(raster)
		b, e := pack.Pack(raster)
		return fmt.Sprintf("pack %d %d", way, len(b)), e
	}
	slice, e := vault.Get(s.file, n[0])
	return map[bool]string{true: "yes", false: "no"}[sample.SameField(slice, raster)], e
}

// gridText: a grid's lines, without the last byte 10.
func gridText(g api.Grid) string {
	lines := []string{fmt.Sprintf("grid %d", g.N)}
	for y := range g.N {
		lines = append(lines, numbers("row", g.Cells[y*g.N:(y+1)*g.N]...))
	}
	return strings.Join(lines, "\n")
}

// wide: what bounds tell along these directions.
func (s state) wide(dirs []api.Dir) (string, api.Errno) {
	lo, hi, e := bound.Wide(s.p.N)
	if e != api.OK {
		return "", e
	}
	var projs []api.Proj
	for _, d := range dirs {
		proj, _ := closed.Project(s.p, d)
		projs = append(projs, proj)
	}
	lo, hi, e = bound.Run(s.p.N, projs, lo, hi)
	sure := 0
	for place := range lo {
		if lo[place] == hi[place] {
			sure++
		}
	}
	return fmt.Sprintf("width %d %d", bound.Width(lo, hi), sure), e
}
