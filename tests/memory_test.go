package tests

import (
	"slices"
	"testing"
)

// spare returns a slice with the given elements whose spare capacity holds marks, and a check that
// nothing within its capacity has changed.
func spare[E comparable](t *testing.T, mark E, l ...E) ([]E, func(what string)) {
	t.Helper()
	whole := append(slices.Clone(l), mark, mark, mark, mark, mark, mark, mark, mark)
	before := slices.Clone(whole)
	check := func(what string) {
		t.Helper()
		if !slices.Equal(whole, before) {
			t.Errorf("%s: the argument %v has become %v", what, before, whole)
		}
	}
	return whole[:len(l)], check
}

// scribble overwrites a result and all its spare capacity.
func scribble[E any](l []E, mark E) {
	l = l[:cap(l)]
	for i := range l {
		l[i] = mark
	}
}
