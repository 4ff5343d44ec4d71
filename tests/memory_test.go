package tests

import (
	"slices"
	"syscall"
	"testing"
	"unsafe"
)

// spare returns a slice with the given elements whose spare capacity holds marks, and a check that
// nothing within its capacity has changed.
func spare[E comparable](t *testing.T, mark E, l ...E) ([]E, func(what string)) {
	t.Helper()
	whole := append(slices.Clone(l), mark, mark, mark, mark, mark, mark, mark, mark)
	before := slices.Clone(whole)
	check := func(what string) {
		t.Helper()
		if !slices.Equal(whole, before) {
			t.Errorf("%s: the argument %v has become %v", what, before, whole)
		}
	}
	return whole[:len(l)], check
}

// scribble overwrites a result and all its spare capacity.
func scribble[E any](l []E, mark E) {
	l = l[:cap(l)]
	for i := range l {
		l[i] = mark
	}
}

// zeroNums returns k zeros that must not be written. They are mapped and not made, since k may be so
// large that the machine should not provide their memory.
func zeroNums(t *testing.T, k int) []int {
	t.Helper()
	size := k * int(unsafe.Sizeof(0))
	b, err := syscall.Mmap(-1, 0, size, syscall.PROT_READ, syscall.MAP_PRIVATE|syscall.MAP_ANON|syscall.MAP_NORESERVE)
	if err != nil {
		t.Skip("the machine maps no", size, "bytes:", err)
	}
	t.Cleanup(func() { syscall.Munmap(b) })
	return unsafe.Slice((*int)(unsafe.Pointer(&b[0])), k)
}
