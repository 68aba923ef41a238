package sample

import (
	"math"
	"slices"
)

// Roomy: the list with room behind it that holds something, and the whole of that memory.
func Roomy[T any](list []T, behind ...T) (same, all []T) {
	all = append(slices.Clone(list), behind...)
	return all[:len(list)], all
}

// An item is of what lists are made that are looked at.
type item interface{ byte | complex128 }

// spare: likewise, with room for whatever would be appended.
func spare[T item](x []T) (list, all []T) {
	behind := []T{1, 2, 3, 4, 5}
	if numbers, ok := any(behind).([]complex128); ok {
		numbers[1] = complex(MinusNought(), math.NaN())
	}
	return Roomy(x, behind...)
}

// marks: what lists are held against each other by, with their NaNs.
func marks[T item](x []T) []uint64 {
	if numbers, ok := any(x).([]complex128); ok {
		return Bits(numbers)
	}
	var out []uint64
	for _, v := range x {
		if b, ok := any(v).(byte); ok {
			out = append(out, uint64(b))
		}
	}
	return out
}

// Changed: does the call change the list that it is handed, or the spare room behind it?
func Changed[T item](x []T, call func(list []T)) bool {
	list, all := spare(x)
	before := marks(all)
	call(list)
	return !slices.Equal(marks(all), before)
}

// Shared: what a call's answer shares its memory with, or "": writing all over it must show neither in the argument nor in another answer, of before or of later, and writing over the argument in no answer.
func Shared[A, B item](x []A, call func(list []A) []B) string {
	list, all := spare(x)
	before := marks(all)
	first, second := call(list), call(list)
	want := marks(first)
	overwrite(first[:cap(first)])
	if !slices.Equal(marks(second), want) || !slices.Equal(marks(call(list)), want) {
		return "another answer"
	}
	if !slices.Equal(marks(all), before) {
		return "the argument"
	}
	overwrite(all)
	if !slices.Equal(marks(second), want) {
		return "the argument, which is written over later"
	}
	return ""
}

// overwrite: with what isn't there.
func overwrite[T item](x []T) {
	for j, v := range x {
		x[j] = 77
		if v == 77 {
			x[j] = 78
		}
	}
}

// Alone: does the call answer the same when it goes on eight times at once?
func Alone[T item](call func() []T) bool {
	want := marks(call())
	answers := make(chan []T)
	for range 8 {
		go func() { answers <- call() }()
	}
	alone := true
	for range 8 {
		alone = slices.Equal(marks(<-answers), want) && alone
	}
	return alone
}
