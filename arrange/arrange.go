// Package arrange lists for the tests what is to be tried in every order, in every combination and in every sequence.
package arrange

import (
	"iter"
	"slices"
)

// Orders yields l in each of its orders, every one in new memory.
func Orders[T any](l []T) iter.Seq[[]T] {
	return func(yield func([]T) bool) {
		order(slices.Clone(l), 0, yield)
	}
}

// order yields l with each order of what is at from and after it; it is false if no more are wanted.
func order[T any](l []T, from int, yield func([]T) bool) bool {
	if from >= len(l)-1 {
		return yield(slices.Clone(l))
	}
	for i := from; i < len(l); i++ {
		l[from], l[i] = l[i], l[from]
		more := order(l, from+1, yield)
		l[from], l[i] = l[i], l[from]
		if !more {
			return false
		}
	}
	return true
}

// Multisets yields each choice of n out of all, which may be chosen more than once, in the order of all and in new memory.
func Multisets[T any](all []T, n int) iter.Seq[[]T] {
	return func(yield func([]T) bool) {
		extend(make([]T, 0, max(n, 0)), all, n, yield)
	}
}

// extend yields what is chosen with each choice of n more out of rest; it is false if no more are wanted.
func extend[T any](chosen, rest []T, n int, yield func([]T) bool) bool {
	if n <= 0 {
		return yield(slices.Clone(chosen))
	}
	for i, next := range rest {
		if !extend(append(chosen, next), rest[i:], n-1, yield) {
			return false
		}
	}
	return true
}

// Sequences yields each sequence of up to n out of all, which may stand in it more than once, ahead of those that go on from it and in new memory.
func Sequences[T any](all []T, n int) iter.Seq[[]T] {
	return func(yield func([]T) bool) {
		goOn(make([]T, 0, max(n, 0)), all, n, yield)
	}
}

// goOn yields what there is so far, and that with each sequence of up to n more out of all; it is false if no more are wanted.
func goOn[T any](soFar, all []T, n int, yield func([]T) bool) bool {
	if !yield(slices.Clone(soFar)) {
		return false
	}
	if n <= 0 {
		return true
	}
	for _, next := range all {
		if !goOn(append(soFar, next), all, n-1, yield) {
			return false
		}
	}
	return true
}
