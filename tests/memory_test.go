package tests

import (
	"slices"
	"syscall"
	"testing"
	"unsafe"

	"loop.example/g00496/impl"
)

// spare returns a slice with the given elements whose spare capacity holds marks, and a check that
// nothing within its capacity has changed.
func spare[E comparable](t *testing.T, mark E, l ...E) ([]E, func(what string)) {
	t.Helper()
	whole := append(slices.Clone(l), mark, mark, mark, mark, mark, mark, mark, mark)
	before := slices.Clone(whole)
	check := func(what string) {
		t.Helper()
		if !slices.Equal(whole, before) {
			t.Errorf("%s: the argument %v has become %v", what, before, whole)
		}
	}
	return whole[:len(l)], check
}

// spareRow returns a row with the same content whose values have spare capacity, and a check that
// nothing within their capacity has changed.
func spareRow(t *testing.T, r impl.Row) (impl.Row, func(what string)) {
	t.Helper()
	l, check := spare(t, impl.Val{Ty: 7, N: 77, S: "mark"}, r.L...)
	return impl.Row{Id: r.Id, L: l}, check
}

// spareRows returns rows with the same content that have spare capacity, as their values have, and a
// check that nothing within these capacities has changed.
func spareRows(t *testing.T, rows ...impl.Row) ([]impl.Row, func(what string)) {
	t.Helper()
	var whole []impl.Row
	var checks []func(string)
	for _, r := range append(slices.Clone(rows), make([]impl.Row, 4)...) {
		own, check := spareRow(t, r)
		whole, checks = append(whole, own), append(checks, check)
	}
	before := slices.Clone(whole)
	check := func(what string) {
		t.Helper()
		for i, r := range whole {
			if r.Id != before[i].Id || !sameSlice(r.L, before[i].L) {
				t.Errorf("%s: the argument's row %v has become %v", what, before[i], r)
			}
			checks[i](what)
		}
	}
	return whole[:len(rows)], check
}

// markPred is what fills the spare capacity of lists of predicates.
func markPred() impl.Pred {
	return impl.Pred{Kind: 77, Col: 7, Op: 7, V: impl.Val{Ty: 7, N: 77, S: "mark"}}
}

// roomyPred returns a predicate with the same content all of whose lists have spare capacity.
func roomyPred(p impl.Pred) impl.Pred {
	l := make([]impl.Pred, 0, len(p.L)+3)
	for _, q := range p.L {
		l = append(l, roomyPred(q))
	}
	p.L = append(l, markPred(), markPred(), markPred())[:len(l)]
	return p
}

// sparePred returns a predicate with the same content all of whose lists have spare capacity, and a
// check that nothing within these capacities has changed.
func sparePred(t *testing.T, p impl.Pred) (impl.Pred, func(what string)) {
	t.Helper()
	own, before := roomyPred(p), roomyPred(p)
	check := func(what string) {
		t.Helper()
		if !sameWhole(own, before) {
			t.Fatalf("%s: the argument %v has become %v", what, before, own)
		}
	}
	return own, check
}

// sameWhole compares the spare capacities of the lists too.
func sameWhole(a, b impl.Pred) bool {
	return a.Kind == b.Kind && a.Col == b.Col && a.Op == b.Op && a.V == b.V && len(a.L) == len(b.L) && slices.EqualFunc(a.L[:cap(a.L)], b.L[:cap(b.L)], sameWhole)
}

// scribblePred overwrites all lists of a result and all their spare capacity.
func scribblePred(p impl.Pred) {
	for _, q := range p.L {
		scribblePred(q)
	}
	scribble(p.L, markPred())
}

// scribbleSpare overwrites the spare capacity of all lists of a result, and nothing else.
func scribbleSpare(p impl.Pred) {
	for _, q := range p.L {
		scribbleSpare(q)
	}
	scribble(p.L[len(p.L):], markPred())
}

func sameSlice[E any](a, b []E) bool {
	return len(a) == len(b) && cap(a) == cap(b) && unsafe.SliceData(a) == unsafe.SliceData(b)
}

// scribble overwrites a result and all its spare capacity.
func scribble[E any](l []E, mark E) {
	l = l[:cap(l)]
	for i := range l {
		l[i] = mark
	}
}

// zeroNums returns k zeros that must not be written. They are mapped and not made, since k may be so
// large that the machine should not provide their memory.
func zeroNums(t *testing.T, k int) []int {
	t.Helper()
	size := k * int(unsafe.Sizeof(0))
	b, err := syscall.Mmap(-1, 0, size, syscall.PROT_READ, syscall.MAP_PRIVATE|syscall.MAP_ANON|syscall.MAP_NORESERVE)
	if err != nil {
		t.Skip("the machine maps no", size, "bytes:", err)
	}
	t.Cleanup(func() { syscall.Munmap(b) })
	return unsafe.Slice((*int)(unsafe.Pointer(&b[0])), k)
}
