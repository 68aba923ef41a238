package plane_test

import (
	"math/big"

	"penumbra/api"
	"penumbra/wave"
)

// The chapter's rules as they stand, cell by cell.

type table func(x, y int) complex128

func tableOf(f api.Grid) table {
	return func(x, y int) complex128 { return f.Cells[y*f.N+x] }
}

// laid: the cells of side n that a table tells.
func laid(n int, at table) []complex128 {
	var out []complex128
	for y := range n {
		for x := range n {
			out = append(out, at(x, y))
		}
	}
	return out
}

// rowsDone: each row by do; none of them can be refused.
func rowsDone(n int, at table, do func([]complex128) ([]complex128, api.Errno)) table {
	rows := make([][]complex128, n)
	for y := range rows {
		var row []complex128
		for x := range n {
			row = append(row, at(x, y))
		}
		rows[y], _ = do(row)
	}
	return func(x, y int) complex128 { return rows[y][x] }
}

func columnsDone(n int, at table, do func([]complex128) ([]complex128, api.Errno)) table {
	columns := make([][]complex128, n)
	for x := range columns {
		var column []complex128
		for y := range n {
			column = append(column, at(x, y))
		}
		columns[x], _ = do(column)
	}
	return func(x, y int) complex128 { return columns[x][y] }
}

func forward(f api.Grid) []complex128 {
	return laid(f.N, columnsDone(f.N, rowsDone(f.N, tableOf(f), wave.Forward), wave.Forward))
}

func back(f api.Grid) []complex128 {
	return laid(f.N, columnsDone(f.N, rowsDone(f.N, tableOf(f), wave.Back), wave.Back))
}

func across(f api.Grid) []complex128 {
	at := tableOf(f)
	return laid(f.N, func(x, y int) complex128 { return at(y, x) })
}

// place: the remainder of k*a by n, in whole numbers without bounds.
func place(k, a, n int) int {
	product := new(big.Int).Mul(big.NewInt(int64(k)), big.NewInt(int64(a)))
	return int(product.Mod(product, big.NewInt(int64(n))).Int64())
}

func line(f api.Grid, a, b int) []complex128 {
	var out []complex128
	for k := range f.N {
		out = append(out, tableOf(f)(place(k, a, f.N), place(k, b, f.N)))
	}
	return out
}

// moved: the field with its cells moved round by (u, v).
func moved(f api.Grid, u, v int) api.Grid {
	cells := make([]complex128, len(f.Cells))
	for y := range f.N {
		for x := range f.N {
			to := place(1, y+v, f.N)*f.N + place(1, x+u, f.N)
			cells[to] = tableOf(f)(x, y)
		}
	}
	return api.Grid{N: f.N, Cells: cells}
}
