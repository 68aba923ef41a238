package plane_test

import (
	"testing"

	"penumbra/api"
	"penumbra/cx"
	"penumbra/plane"
	"penumbra/sample"
)

// P4.1: each call by its rule, at every side, at all kinds of cells.
func TestByTheirRules(t *testing.T) {
	for _, n := range sides() {
		for _, f := range append(fields(n, sample.Lists), fields(n, sample.Wholes)...) {
			check(t, "Forward", of(t, plane.Forward, f).Cells, forward(f))
			check(t, "Back", of(t, plane.Back, f).Cells, back(f))
			check(t, "Across", of(t, plane.Across, f).Cells, across(f))
		}
	}
}

// P4.1: lines of any slopes; every cell is another one, so that each place shows.
func TestLines(t *testing.T) {
	for _, n := range sides() {
		f := api.Grid{N: n, Cells: make([]complex128, n*n)}
		for j := range f.Cells {
			f.Cells[j] = complex(float64(j%n), float64(j/n))
		}
		for _, a := range slopes() {
			for _, b := range slopes() {
				got, e := plane.Line(f, a, b)
				if e != api.OK {
					t.Fatalf("side %d, slopes %d and %d: error %d", n, a, b, e)
				}
				check(t, "Line", got, line(f, a, b))
			}
		}
	}
}

// P4.1: a line's numbers are the cells bit by bit.
func TestLinesOfAnyCells(t *testing.T) {
	for _, n := range sides() {
		for _, f := range fields(n, sample.Lists) {
			for _, a := range []int{-1, 0, 1, 3} {
				got, e := plane.Line(f, a, 2-a)
				if e != api.OK {
					t.Fatalf("side %d: error %d", n, e)
				}
				check(t, "Line", got, line(f, a, 2-a))
			}
		}
	}
}

// P4.1: rows go first: with columns first the last bits would be others.
func TestRowsGoFirst(t *testing.T) {
	d := sample.Dice(7)
	f := api.Grid{N: 32, Cells: d.List(32*32, d.Near)}
	for name, do := range map[string]call{"Forward": plane.Forward, "Back": plane.Back} {
		g := of(t, do, f)
		h := of(t, plane.Across, of(t, do, of(t, plane.Across, f)))
		others := 0
		for j := range g.Cells {
			if !sample.Agree(g.Cells[j], h.Cells[j]) {
				others++
			}
		}
		if others == 0 {
			t.Errorf("%s: both orders answer the same bits, so that these cells tell nothing", name)
		}
	}
}

// P4.1: bits that were worked out by another program in another language.
func TestBits(t *testing.T) {
	calls := map[string]call{"Forward": plane.Forward, "Back": plane.Back}
	for _, c := range []struct {
		name    string
		n, x, y int
		want    string
	}{
		{"Forward", 1, 0, 0, "c049000000000000c043c5d1745d1746"},
		{"Forward", 2, 0, 0, "c05d249249249249c0635d1745d1745d"},
		{"Forward", 2, 1, 0, "c0416db6db6db6dbbffd1745d1745d20"},
		{"Forward", 2, 0, 1, "c0516db6db6db6dbc008ba2e8ba2e8c0"},
		{"Forward", 2, 1, 1, "403524924924924a3ffa2e8ba2e8ba20"},
		{"Forward", 4, 0, 0, "4066249249249249c06cc00000000000"},
		{"Forward", 4, 1, 0, "c03eba2e8ba2e8b64061d24924924924"},
		{"Forward", 4, 0, 1, "c072d24924924925c074f9c427e56711"},
		{"Forward", 4, 2, 1, "c06b303531dec0d44064e49249249249"},
		{"Forward", 4, 3, 2, "c0679ec0d4c77b04c04d06a63bd81a98"},
		{"Forward", 4, 2, 3, "c034c77b03531decc051c92492492492"},
		{"Forward", 8, 0, 0, "408c8edb6db6db6ec0604ba2e8ba2e8a"},
		{"Forward", 8, 1, 0, "c077a6c446ee2a67407a4e4ce80dc63c"},
		{"Forward", 8, 0, 1, "40751db3f6041e7cc065e903b45b3bc2"},
		{"Forward", 8, 4, 1, "c06e0e25499246a6c06bd11c851e2680"},
		{"Forward", 8, 7, 4, "c0683557c446d914c067aec729cc0e0f"},
		{"Forward", 8, 6, 7, "c0617477bf896126c064f19f0515137c"},
		{"Forward", 32, 0, 0, "40d4ff249249249240b0910000000000"},
		{"Forward", 32, 1, 0, "c09b2d36118f5cfbc06b9c1f489d75c7"},
		{"Forward", 32, 0, 1, "c09222deef89a82cc092bd0444054c2f"},
		{"Forward", 32, 16, 1, "40817a77166beaa7c097e72297d899f2"},
		{"Forward", 32, 31, 16, "4064a46f5b6a75a8c091feeebeea170a"},
		{"Forward", 32, 30, 31, "c093ecfdb3880aa840637eb526134e1c"},
		{"Forward", 64, 0, 0, "40f50c149249249240d0df45d1745d17"},
		{"Forward", 64, 1, 0, "408652f6e807869fc06136802112a743"},
		{"Forward", 64, 0, 1, "c07d4dafedb66a58c0833e53587ed25c"},
		{"Forward", 64, 32, 1, "c041108148f22210c07fb5b431a019cb"},
		{"Forward", 64, 63, 32, "c084c156a6bc8b2c40a0aaed4a02fe0c"},
		{"Forward", 64, 62, 63, "c06310cc3531c8984050e3a0acc66c10"},
		{"Back", 1, 0, 0, "c049000000000000c043c5d1745d1746"},
		{"Back", 2, 0, 0, "c03d249249249249c0435d1745d1745d"},
		{"Back", 2, 1, 0, "c0216db6db6db6dbbfdd1745d1745d20"},
		{"Back", 2, 0, 1, "c0316db6db6db6dbbfe8ba2e8ba2e8c0"},
		{"Back", 2, 1, 1, "401524924924924a3fda2e8ba2e8ba20"},
		{"Back", 4, 0, 0, "4026249249249249c02cc00000000000"},
		{"Back", 4, 1, 0, "bff945d1745d174cc014a4924924924a"},
		{"Back", 4, 0, 1, "c00e924924924926400b9f959c427e50"},
		{"Back", 4, 2, 1, "bff4c77b03531decc011c92492492492"},
		{"Back", 4, 3, 2, "c008a98ef606a63b4026877b03531dec"},
		{"Back", 4, 2, 3, "c02b303531dec0d44024e49249249249"},
		{"Back", 8, 0, 0, "402c8edb6db6db6ec0004ba2e8ba2e8a"},
		{"Back", 8, 1, 0, "c007c024ee0ef9ccbff7db160957a062"},
		{"Back", 8, 0, 1, "3ff7af48b0e839c8c012e9b1506ffe7a"},
		{"Back", 8, 4, 1, "3ff8b61d68d3a8cc40007356c733545c"},
		{"Back", 8, 7, 4, "c01db09f9749a4fd40141419a05ef268"},
		{"Back", 8, 6, 7, "bff9b2403e227c8ebfec6a926a2c8278"},
		{"Back", 32, 0, 0, "4034ff24924924924010910000000000"},
		{"Back", 32, 1, 0, "bfe53f4a29294d963fe2cfe524a2fec1"},
		{"Back", 32, 0, 1, "3fd0ca7a305df348bfd6a21ef334fcc2"},
		{"Back", 32, 16, 1, "3fc50203f67905c4bfe22db7eeac8ede"},
		{"Back", 32, 31, 16, "3fe1014e558c5ac2bfbe3f8b4372dea6"},
		{"Back", 32, 30, 31, "bfe18b969e12d1d4bffc7a0919ddf34e"},
		{"Back", 64, 0, 0, "40350c14924924924010df45d1745d17"},
		{"Back", 64, 1, 0, "bf6eb9ce80d187003f7ae622a8561640"},
		{"Back", 64, 0, 1, "bfb8c1a5e8116d78bfc3b8b62f578282"},
		{"Back", 64, 32, 1, "3f9bda2f45b41f30bf995bdacc4fcc20"},
		{"Back", 64, 63, 32, "bfb7ddcc10d686163fb443324e3f923a"},
		{"Back", 64, 62, 63, "3fb9425b3c3ae518bfd09d80ca17b15a"},
	} {
		f := api.Grid{N: c.n, Cells: make([]complex128, c.n*c.n)}
		for j := range f.Cells {
			f.Cells[j] = complex(float64((j*j*37+11*j)%1009)/7-50, float64((j*j*j+5)%997)/11-40)
		}
		g := of(t, calls[c.name], f)
		if got := cx.Text(g.Cells[c.y*c.n+c.x]); got != c.want {
			t.Errorf("%s, side %d, at (%d, %d): %s, not %s", c.name, c.n, c.x, c.y, got, c.want)
		}
	}
}

// P4.1: the chapter's examples.
func TestExamples(t *testing.T) {
	four := api.Grid{N: 2, Cells: []complex128{1, 2, 3, 4}}
	f := of(t, plane.Forward, four)
	check(t, "Forward", f.Cells, []complex128{10, -2, -4, 0})
	check(t, "Back", of(t, plane.Back, f).Cells, four.Cells)
	check(t, "Across", of(t, plane.Across, four).Cells, []complex128{1, 3, 2, 4})
	for _, c := range []struct {
		a, b int
		want []complex128
	}{{1, 1, []complex128{10, 0}}, {0, 3, []complex128{10, -4}}, {1, 0, []complex128{10, -2}}} {
		got, e := plane.Line(f, c.a, c.b)
		if e != api.OK {
			t.Errorf("slopes %d and %d: error %d", c.a, c.b, e)
		}
		check(t, "Line", got, c.want)
	}
}

// P4.1: of one cell there is no butterfly: it stays as it is, a nought's sign and all.
func TestOneCell(t *testing.T) {
	for _, list := range [][]complex128{{0}, {5 - 7i}, {complex(sample.MinusNought(), sample.MinusNought())}} {
		f := api.Grid{N: 1, Cells: list}
		for name, do := range calls() {
			got, e := do(f)
			if e != api.OK {
				t.Errorf("%s of one cell: error %d", name, e)
			}
			check(t, name, got, list)
		}
	}
}

// P4.1 and P1, rules 1 to 3 and 6: a field that isn't right has ErrLen, and nothing beside it.
func TestWrongFields(t *testing.T) {
	for _, f := range wrong() {
		for name, do := range map[string]call{"Forward": plane.Forward, "Back": plane.Back, "Across": plane.Across} {
			if g, e := do(f); e != api.ErrLen || g.N != 0 || len(g.Cells) != 0 {
				t.Errorf("%s, side %d, %d cells: side %d, %d cells, error %d", name, f.N, len(f.Cells), g.N, len(g.Cells), e)
			}
		}
		for _, a := range []int{-1, 0, 1, f.N} {
			if x, e := plane.Line(f, a, 1); e != api.ErrLen || len(x) != 0 {
				t.Errorf("Line, side %d, %d cells: %d numbers, error %d", f.N, len(f.Cells), len(x), e)
			}
		}
	}
}
