package sample

import (
	"math"
	"slices"
)

// Roomy: the list with room behind it that holds something, and the whole of that memory.
func Roomy[T any](list []T, behind ...T) (same, all []T) {
	all = append(slices.Clone(list), behind...)
	return all[:len(list)], all
}

// spare: likewise of numbers.
func spare(x []complex128) (list, all []complex128) {
	return Roomy(x, 1+2i, complex(MinusNought(), math.NaN()), 3, 4, 5)
}

// Changed: does the call change the list that it is handed, or the spare room behind it?
func Changed(x []complex128, call func(list []complex128)) bool {
	list, all := spare(x)
	before := Bits(all)
	call(list)
	return !slices.Equal(Bits(all), before)
}

// Shared: what a call's answer shares its memory with, or "": writing all over it must show neither in the argument nor in another answer, of before or of later, and writing over the argument in no answer.
func Shared(x []complex128, call func(list []complex128) []complex128) string {
	list, all := spare(x)
	before := Bits(all)
	first, second := call(list), call(list)
	want := Bits(first)
	overwrite(first[:cap(first)])
	if !slices.Equal(Bits(second), want) || !slices.Equal(Bits(call(list)), want) {
		return "another answer"
	}
	if !slices.Equal(Bits(all), before) {
		return "the argument"
	}
	overwrite(all)
	if !slices.Equal(Bits(second), want) {
		return "the argument, which is written over later"
	}
	return ""
}

func overwrite(x []complex128) {
	for j := range x {
		x[j] = complex(math.NaN(), 7)
	}
}

// Alone: does the call answer the same when it goes on eight times at once?
func Alone(call func() []complex128) bool {
	want := Bits(call())
	answers := make(chan []complex128)
	for range 8 {
		go func() { answers <- call() }()
	}
	alone := true
	for range 8 {
		alone = slices.Equal(Bits(<-answers), want) && alone
	}
	return alone
}
