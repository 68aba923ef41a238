package phantom

import (
	"strconv"
	"strings"

	"penumbra/api"
)

// The words that lines begin with.
const (
	head  = "phantom"
	rect  = "rect"
	disc  = "disc"
	wedge = "wedge"
)

func line(word string, numbers ...int) string {
	var b strings.Builder
	b.WriteString(word)
	for _, n := range numbers {
		b.WriteByte(' ')
		b.WriteString(strconv.Itoa(n))
	}
	b.WriteByte('\n')
	return b.String()
}

// lineOf takes a shape that is one, with a worth that is one.
func lineOf(s api.Shape) string {
	re, im := int(real(s.Worth)), int(imag(s.Worth))
	switch s.Kind {
	case api.Rect:
		return line(rect, s.X, s.Y, s.A, s.B, re, im)
	case api.Disc:
		return line(disc, s.X, s.Y, s.A, re, im)
	}
	return line(wedge, s.X, s.Y, s.A, s.B, re, im)
}

// broken is what all that reads a text panics with at a fault of it; Parse catches it.
const broken = api.ErrPage

// read answers the phantom of a whole text. A text that is too long for any phantom's is not gone through.
func read(text string) api.Phantom {
	if len(text) > api.MaxText {
		panic(broken)
	}
	word, numbers, rest := readLine(text)
	if word != head || len(numbers) != 1 {
		panic(broken)
	}
	p := api.Phantom{N: numbers[0]}
	for rest != "" {
		word, numbers, rest = readLine(rest)
		p.Shapes = append(p.Shapes, shapeOf(word, numbers))
	}
	if Check(p) != api.OK {
		panic(broken)
	}
	return p
}

// readLine answers the first line's word and numbers, and what comes behind that line.
func readLine(text string) (string, []int, string) {
	first, rest, ended := strings.Cut(text, "\n")
	if !ended {
		panic(broken)
	}
	words := strings.Split(first, " ")
	var numbers []int
	for _, word := range words[1:] {
		numbers = append(numbers, readNumber(word))
	}
	return words[0], numbers, rest
}

// readNumber writes the number again, since one has many texts that Atoi reads, but one that is told.
func readNumber(word string) int {
	n, err := strconv.Atoi(word)
	if err != nil || strconv.Itoa(n) != word {
		panic(broken)
	}
	return n
}

func shapeOf(word string, n []int) api.Shape {
	switch {
	case word == rect && len(n) == 6:
		return api.Shape{Kind: api.Rect, X: n[0], Y: n[1], A: n[2], B: n[3], Worth: worth(n[4], n[5])}
	case word == disc && len(n) == 5:
		return api.Shape{Kind: api.Disc, X: n[0], Y: n[1], A: n[2], Worth: worth(n[3], n[4])}
	case word == wedge && len(n) == 6:
		return api.Shape{Kind: api.Wedge, X: n[0], Y: n[1], A: n[2], B: n[3], Worth: worth(n[4], n[5])}
	}
	panic(broken)
}

func worth(re, im int) complex128 { return complex(float64(re), float64(im)) }
