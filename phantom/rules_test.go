package phantom_test

import (
	"fmt"
	"math"
	"math/big"
	"regexp"
	"strings"

	"penumbra/api"
	"penumbra/sample"
	"penumbra/shape"
)

// fault: the chapter's words, in their order; a worth's part must be one of the whole numbers themselves, held against it by its bits.
func fault(p api.Phantom) api.Errno {
	if p.N < 1 || p.N > 64 {
		return api.ErrArg
	}
	if len(p.Shapes) > 16 {
		return api.ErrLong
	}
	for _, s := range p.Shapes {
		if shape.Check(s) != api.OK {
			return api.ErrShape
		}
		for _, part := range []float64{real(s.Worth), imag(s.Worth)} {
			if _, ok := wholeOf(part); !ok {
				return api.ErrWorth
			}
		}
	}
	return api.OK
}

func wholeOf(part float64) (int, bool) {
	near := new(big.Float)
	if part != part || math.IsInf(part, 0) {
		return 0, false
	}
	n, exact := near.SetFloat64(part).Int64()
	same := math.Float64bits(float64(n)) == math.Float64bits(part)
	return int(n), exact == big.Exact && same && n >= -65536 && n <= 65536
}

// sums: of both parts of the worths of all shapes that hold the cell, in whole numbers.
func sums(p api.Phantom, x, y int) (re, im int) {
	for _, s := range p.Shapes {
		if shape.Inside(s, x, y) {
			re += int(real(s.Worth))
			im += int(imag(s.Worth))
		}
	}
	return re, im
}

func number(re, im int) complex128 { return complex(float64(re), float64(im)) }

// value: noughts of it are +0, since 0 is the only whole number that is one.
func value(p api.Phantom, x, y int) complex128 { return number(sums(p, x, y)) }

// told: the text of a sound phantom.
func told(p api.Phantom) string {
	out := fmt.Sprintf("phantom %d\n", p.N)
	for _, s := range p.Shapes {
		word := map[int]string{1: "rect", 2: "disc", 3: "wedge"}[s.Kind]
		measures := fmt.Sprintf("%d %d", s.A, s.B)
		if s.Kind == 2 {
			measures = fmt.Sprint(s.A)
		}
		out += fmt.Sprintf("%s %d %d %s %.0f %.0f\n", word, s.X, s.Y, measures, real(s.Worth), imag(s.Worth))
	}
	return out
}

var whole = regexp.MustCompile(`\A(phantom( N))\n((rect|wedge)( N){6}\n|disc( N){5}\n)*\z`)

var numbers = regexp.MustCompile(`\A(0|-?[1-9][0-9]*)\z`)

// written: the phantom whose text s is, and whether there is one. What it looks like is held against one with a letter for each number, and each number is taken without bounds.
func written(s string) (api.Phantom, bool) {
	if strings.Contains(s, "N") {
		return api.Phantom{}, false
	}
	var p api.Phantom
	var lines []string
	for i, line := range strings.Split(s, "\n") {
		words := strings.Split(line, " ")
		var found []int
		for j := 1; j < len(words); j++ {
			if n, ok := new(big.Int).SetString(words[j], 10); ok && numbers.MatchString(words[j]) && n.IsInt64() {
				found = append(found, int(n.Int64()))
				words[j] = "N"
			}
		}
		lines = append(lines, strings.Join(words, " "))
		switch {
		case i == 0 && len(found) > 0:
			p.N = found[0]
		case words[0] == "disc" && len(found) == 5:
			p.Shapes = append(p.Shapes, sample.Disc(found[0], found[1], found[2], number(found[3], found[4])))
		case words[0] == "rect" && len(found) == 6:
			p.Shapes = append(p.Shapes, sample.Rect(found[0], found[1], found[2], found[3], number(found[4], found[5])))
		case words[0] == "wedge" && len(found) == 6:
			p.Shapes = append(p.Shapes, sample.Wedge(found[0], found[1], found[2], found[3], number(found[4], found[5])))
		}
	}
	if !whole.MatchString(strings.Join(lines, "\n")) || fault(p) != api.OK {
		return api.Phantom{}, false
	}
	return p, true
}
