package tests

import (
	"slices"
	"testing"
)

// withRoom has room behind its length, with what is none of the list in it.
func withRoom[T any](l []T, behind ...T) []T {
	return slices.Clip(slices.Concat(l, behind))[:len(l)]
}

// wholeOf is a copy of all that a list has, also behind its length.
func wholeOf[T any](l []T) []T {
	return slices.Clone(l[:cap(l)])
}

// wantAsFresh: lists that were given are as they were made, also behind their length.
func wantAsFresh[T comparable](t *testing.T, what string, given [][]T, fresh [][]T) {
	t.Helper()
	for i := range given {
		if len(given[i]) != len(fresh[i]) || !slices.Equal(wholeOf(given[i]), wholeOf(fresh[i])) {
			t.Errorf("%s: list %d was written into: %v", what, i, wholeOf(given[i]))
		}
	}
}

// wantListsApart: what is answered is its own memory at its whole capacity, each list of it apart from the others, and has nothing from behind what was given.
func wantListsApart[T comparable](t *testing.T, what string, given [][]T, fresh [][]T, answer [][]T, spoilt T) {
	t.Helper()
	wantAsFresh(t, what, given, fresh)
	var held [][]T
	for i, l := range answer {
		held = append(held, slices.Clone(l))
		for _, behind := range fresh {
			for _, x := range behind[len(behind):cap(behind)] {
				if slices.Contains(wholeOf(l), x) {
					t.Errorf("%s: list %d has %v, from behind a length", what, i, x)
				}
			}
		}
	}
	for _, l := range given {
		spoil(l, spoilt)
	}
	wantAsHeld(t, what+", the argument spoilt", answer, held)
	for i, l := range given {
		copy(l[:cap(l)], wholeOf(fresh[i]))
	}
	for i, l := range answer {
		spoil(l, spoilt)
		wantAsHeld(t, what+", another list spoilt", answer[i+1:], held[i+1:])
	}
	wantAsFresh(t, what+", the answer spoilt", given, fresh)
}

func wantAsHeld[T comparable](t *testing.T, what string, got [][]T, held [][]T) {
	t.Helper()
	for i := range got {
		if !slices.Equal(got[i], held[i]) {
			t.Errorf("%s: %v was %v", what, got[i], held[i])
		}
	}
}
