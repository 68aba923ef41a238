package root_test

import (
	"math"
	"math/big"
	"testing"

	"penumbra/api"
	"penumbra/cx"
	"penumbra/root"
)

// at: a root of an order that there is.
func at(t *testing.T, n, k int) complex128 {
	t.Helper()
	a, e := root.Root(n, k)
	if e != api.OK {
		t.Fatalf("Root(%d, %d): error %d", n, k, e)
	}
	return a
}

// P2.1: every root of every order, against the rules worked out exactly and rounded step by step.
func TestRootByItsRules(t *testing.T) {
	by := told{}
	for _, n := range orders() {
		for k := range n {
			if got, want := at(t, n, k), by.root(n, k); !same(got, want) {
				t.Errorf("Root(%d, %d): %s, not %s", n, k, cx.Text(got), cx.Text(want))
			}
		}
	}
}

// P2.1: bits that were worked out by another program in another language.
func TestRootBits(t *testing.T) {
	for _, c := range []struct {
		n, k int
		want string
	}{
		{1, 0, "3ff00000000000000000000000000000"},
		{2, 1, "bff00000000000000000000000000000"},
		{4, 1, "00000000000000003ff0000000000000"},
		{4, 3, "0000000000000000bff0000000000000"},
		{8, 1, "3fe6a09e667f3bcd3fe6a09e667f3bcd"},
		{8, 3, "bfe6a09e667f3bcd3fe6a09e667f3bcd"},
		{8, 6, "0000000000000000bff0000000000000"},
		{16, 1, "3fed906bcf328d463fd87de2a6aea963"},
		{16, 3, "3fd87de2a6aea9633fed906bcf328d46"},
		{32, 3, "3fea9b66290ea1a23fe1c73b39ae68c8"},
		{64, 5, "3fec38b2f180bdb13fde2b5d3806f63c"},
		{64, 7, "3fe8bc806b1517403fe44cf325091dd6"},
		{64, 13, "3fd294062ed59f063fee9f4156c62dda"},
		{256, 31, "3fe72d0837efff953fe610b7551d2cdf"},
		{1024, 127, "3fe6c40d73c182743fe67cf78491af10"},
		{1024, 641, "bfe67cf78491af10bfe6c40d73c18274"},
		{4096, 0, "3ff00000000000000000000000000000"},
		{4096, 1, "3feffffd88586ee63f5921faaee6472e"},
		{4096, 2, "3feffff621621d023f6921f8becca4bb"},
		{4096, 3, "3fefffe9cb1e2e8c3f72d97822f996bc"},
		{4096, 341, "3febb892d5d5dad43fdff8be6537615f"},
		{4096, 511, "3fe6a97f692c82e83fe697b9e686941c"},
		{4096, 512, "3fe6a09e667f3bcd3fe6a09e667f3bcd"},
		{4096, 513, "3fe697b9e686941c3fe6a97f692c82e8"},
		{4096, 1023, "3f5921faaee6472e3feffffd88586ee6"},
		{4096, 1024, "00000000000000003ff0000000000000"},
		{4096, 1025, "bf5921faaee6472e3feffffd88586ee6"},
		{4096, 2048, "bff00000000000000000000000000000"},
		{4096, 2730, "bfe00740c82b82e1bfebb249a0b6c40d"},
		{4096, 4095, "3feffffd88586ee6bf5921faaee6472e"},
	} {
		if got := cx.Text(at(t, c.n, c.k)); got != c.want {
			t.Errorf("Root(%d, %d): %s, not %s", c.n, c.k, got, c.want)
		}
	}
}

// P2.1: a k below 0 or above n - 1 counts as its remainder, at the ends of int too.
func TestRootAtAnyPlace(t *testing.T) {
	for _, n := range orders() {
		ks := []int{math.MinInt, math.MinInt + 1, math.MinInt + n - 1, -1 << 32, 1 << 32, 1<<32 + 3, math.MaxInt - n, math.MaxInt - 1, math.MaxInt}
		for _, edge := range []int{-3 * n, -n, -n / 4, -n / 8, 0, n / 8, n / 4, n / 2, 3 * n / 4, n, 2 * n, 5*n + n/8} {
			ks = append(ks, edge-2, edge-1, edge, edge+1, edge+2)
		}
		for _, k := range ks {
			r := new(big.Int).Mod(big.NewInt(int64(k)), big.NewInt(int64(n))).Int64()
			if got, want := at(t, n, k), at(t, n, int(r)); !same(got, want) {
				t.Errorf("Root(%d, %d): %v, not %v as at %d", n, k, got, want, r)
			}
		}
	}
}

// P2.1: the chapter's examples.
func TestExamples(t *testing.T) {
	half := 0.7071067811865476
	for _, c := range []struct {
		n, k int
		want complex128
	}{{1, 5, 1}, {2, 1, -1}, {4, 1, 1i}, {4, -1, complex(0, -1)}, {8, 1, complex(half, half)}} {
		if got := at(t, c.n, c.k); !same(got, c.want) {
			t.Errorf("Root(%d, %d): %v, not %v", c.n, c.k, got, c.want)
		}
	}
	table, e := root.Table(4)
	want := []complex128{1, 1i, -1, complex(0, -1)}
	if e != api.OK || len(table) != 4 {
		t.Fatalf("Table(4): %v, error %d", table, e)
	}
	for k, a := range table {
		if !same(a, want[k]) {
			t.Errorf("Table(4): %v at %d", a, k)
		}
	}
}

// P2.1: the table has the roots in their order, as many as the order says.
func TestTable(t *testing.T) {
	for _, n := range orders() {
		table, e := root.Table(n)
		if e != api.OK || len(table) != n {
			t.Fatalf("Table(%d): %d of them, error %d", n, len(table), e)
		}
		for k, a := range table {
			if want := at(t, n, k); !same(a, want) {
				t.Errorf("Table(%d) at %d: %v, not %v", n, k, a, want)
			}
		}
	}
}

// P2.1 and P1, rules 1, 2 and 6: what is no order has ErrLen and nothing beside it, whatever k is.
func TestWrongOrders(t *testing.T) {
	for _, n := range wrong() {
		for _, k := range []int{math.MinInt, -1, 0, 1, n, math.MaxInt} {
			if a, e := root.Root(n, k); e != api.ErrLen || !same(a, 0) {
				t.Errorf("Root(%d, %d): %v, error %d", n, k, a, e)
			}
		}
		if table, e := root.Table(n); e != api.ErrLen || len(table) != 0 {
			t.Errorf("Table(%d): %d of them, error %d", n, len(table), e)
		}
	}
}

// P1, rules 4 and 5: each table is new memory, and what a caller does to one is seen in no other answer.
func TestTableIsNew(t *testing.T) {
	for _, n := range orders() {
		first, _ := root.Table(n)
		other, _ := root.Table(n)
		first = first[:cap(first)]
		for k := range first {
			first[k] = complex(math.NaN(), 7)
		}
		again, _ := root.Table(n)
		for k := range n {
			if want := at(t, n, k); !same(other[k], want) || !same(again[k], want) {
				t.Fatalf("Table(%d) at %d: %v and %v, not %v", n, k, other[k], again[k], want)
			}
		}
	}
}
