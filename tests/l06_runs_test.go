package tests

import (
	"bytes"
	"math"
	"slices"
	"strconv"
	"testing"

	"loop.example/g00496/impl"
)

func runOf(v impl.Val, k int) impl.Run {
	return impl.Run{V: v, K: k}
}

// cycleOf returns k values that go through the given ones again and again.
func cycleOf(k int, values ...impl.Val) []impl.Val {
	var out []impl.Val
	for i := range k {
		out = append(out, values[i%len(values)])
	}
	return out
}

// differentVals returns k valid values of this type that all differ.
func differentVals(ty, k int) []impl.Val {
	var out []impl.Val
	for i := range k {
		out = append(out, valOf(ty, i))
	}
	return out
}

// plainRuns measures each run up to the next other value, apart from the program.
func plainRuns(l []impl.Val) []impl.Run {
	var out []impl.Run
	for len(l) > 0 {
		k := slices.IndexFunc(l, func(v impl.Val) bool { return v != l[0] })
		if k < 0 {
			k = len(l)
		}
		out, l = append(out, runOf(l[0], k)), l[k:]
	}
	return out
}

func plainRunCode(runs ...impl.Run) []byte {
	out := plainNum(len(runs))
	for _, r := range runs {
		out = append(out, slices.Concat(plainNum(r.K), plainCode(r.V))...)
	}
	return out
}

// plainRunsDecode reads runs in the document's words, and repeats them if no other rule is broken.
func plainRunsDecode(b []byte, ty int) ([]impl.Val, bool) {
	count, k, ok := plainGet(b, tyInt)
	if !ok || count.N < 1 {
		return nil, false
	}
	b = b[k:]
	var out []impl.Val
	for i := range count.N {
		length, k, ok := plainGet(b, tyInt)
		if !ok || length.N < 1 || length.N > mostVals-len(out) {
			return nil, false
		}
		b = b[k:]
		v, k, ok := plainGet(b, ty)
		if !ok || i > 0 && out[len(out)-1] == v {
			return nil, false
		}
		out, b = append(out, cycleOf(length.N, v)...), b[k:]
	}
	return out, len(b) == 0
}

// wantRuns checks everything about the runs of a list, and that they spread to the list.
func wantRuns(t *testing.T, l []impl.Val, want ...impl.Run) {
	t.Helper()
	name := strconv.Itoa(len(l)) + " values"
	got := impl.Runs(l)
	if !slices.Equal(got, want) {
		t.Errorf("Runs of %s %v = %v, want %v", name, l[:min(len(l), 9)], got[:min(len(got), 9)], want[:min(len(want), 9)])
	}
	longest := 0
	for _, r := range want {
		longest = max(longest, r.K)
	}
	if n := impl.LongestRun(l); n != longest {
		t.Errorf("LongestRun of %s %v = %d, want %d", name, l[:min(len(l), 9)], n, longest)
	}
	if n := impl.Turns(l); n != max(len(want)-1, 0) {
		t.Errorf("Turns of %s %v = %d, want %d", name, l[:min(len(l), 9)], n, max(len(want)-1, 0))
	}
	if len(l) <= mostVals {
		wantSpread(t, got, l...)
	} else {
		wantSpread(t, got)
	}
}

func wantSpread(t *testing.T, l []impl.Run, want ...impl.Val) {
	t.Helper()
	if got := impl.Spread(l); !slices.Equal(got, want) {
		t.Errorf("Spread of %d runs %v = %d values %v, want %d values %v", len(l), l[:min(len(l), 9)], len(got), got, len(want), want)
	}
}

// wantRunCode checks the encoding of a list by its type, and that it is decoded again.
func wantRunCode(t *testing.T, l []impl.Val) {
	t.Helper()
	b, ty := impl.EncRuns(l), fittingType(l)
	if ty == 0 {
		wantBytes(t, "EncRuns of "+strconv.Itoa(len(l))+" values of no type", b, nil)
		return
	}
	wantBytes(t, "EncRuns of "+strconv.Itoa(len(l))+" values", b, plainRunCode(plainRuns(l)...))
	wantRunsDecoded(t, b, ty, l)
}

func wantRunsDecoded(t *testing.T, b []byte, ty int, want []impl.Val) {
	t.Helper()
	if l, ok := impl.DecRuns(b, ty, len(want)); !slices.Equal(l, want) || !ok {
		t.Errorf("DecRuns(%v, %d, %d) = %v, %v; want %v, true", b, ty, len(want), l, ok, want)
	}
}

func wantRunsNotDecoded(t *testing.T, b []byte, ty, k int) {
	t.Helper()
	if l, ok := impl.DecRuns(b, ty, k); len(l) != 0 || ok {
		t.Errorf("DecRuns(%v, %d, %d) = %v, %v; want none, false", b, ty, k, l, ok)
	}
}

// wantNoRunCode checks that b is decoded for no number of values and no type.
func wantNoRunCode(t *testing.T, b []byte) {
	t.Helper()
	for ty := range 4 {
		for k := -1; k <= mostVals+1; k++ {
			wantRunsNotDecoded(t, b, ty, k)
		}
	}
}

func TestRunsTable(t *testing.T) {
	wantRuns(t, nil)
	wantRuns(t, []impl.Val{})
	wantRuns(t, intsOf(4, 4, 4, 1), runOf(intOf(4), 3), runOf(intOf(1), 1))
	wantRuns(t, intsOf(7), runOf(intOf(7), 1))
	wantRuns(t, textsOf(""), runOf(textOf(""), 1))
	wantRuns(t, intsOf(0, 0), runOf(intOf(0), 2))
	wantRuns(t, intsOf(0, 1), runOf(intOf(0), 1), runOf(intOf(1), 1))
	wantRuns(t, intsOf(1, 2, 1), runOf(intOf(1), 1), runOf(intOf(2), 1), runOf(intOf(1), 1))
	wantRuns(t, intsOf(1, 1, 2, 2, 2, 1), runOf(intOf(1), 2), runOf(intOf(2), 3), runOf(intOf(1), 1))
	wantRuns(t, textsOf("a", "b", "b", "b", "b"), runOf(textOf("a"), 1), runOf(textOf("b"), 4))
	wantRuns(t, textsOf("a", "ab", "ab", "abc", ""), runOf(textOf("a"), 1), runOf(textOf("ab"), 2), runOf(textOf("abc"), 1), runOf(textOf(""), 1))
	wantRuns(t, []impl.Val{intOf(0), intOf(0), textOf(""), textOf("")}, runOf(intOf(0), 2), runOf(textOf(""), 2))
	wantRuns(t, []impl.Val{{}, {}, {}}, runOf(impl.Val{}, 3))
	wantRuns(t, []impl.Val{{}, {Ty: 3}, {Ty: 3}, {Ty: 3, N: 1}, {Ty: 3, N: 1, S: "A"}}, runOf(impl.Val{}, 1), runOf(impl.Val{Ty: 3}, 2), runOf(impl.Val{Ty: 3, N: 1}, 1), runOf(impl.Val{Ty: 3, N: 1, S: "A"}, 1))
}

// TestRunsFields has neighbours that differ in one field, valid or not.
func TestRunsFields(t *testing.T) {
	for _, v := range []impl.Val{{}, intOf(5), textOf("a"), {Ty: tyInt, N: 5, S: "a"}, {Ty: math.MaxInt, N: math.MinInt, S: "\xff"}} {
		wantRuns(t, []impl.Val{v, v}, runOf(v, 2))
		for _, other := range []impl.Val{
			{Ty: v.Ty ^ 1, N: v.N, S: v.S}, {Ty: v.Ty ^ 1<<32, N: v.N, S: v.S}, {Ty: v.Ty, N: v.N ^ 1, S: v.S}, {Ty: v.Ty, N: v.N ^ 1<<40, S: v.S}, {Ty: v.Ty, N: ^v.N, S: v.S},
			{Ty: v.Ty, N: v.N, S: v.S + "a"}, {Ty: v.Ty, N: v.N, S: v.S + "\x00"}, {Ty: v.Ty, N: v.N, S: "b"},
		} {
			wantRuns(t, []impl.Val{v, other}, runOf(v, 1), runOf(other, 1))
			wantRuns(t, []impl.Val{v, v, other, v}, runOf(v, 2), runOf(other, 1), runOf(v, 1))
		}
	}
}

func TestRunsAllShort(t *testing.T) {
	for _, l := range slices.Concat(
		listsOf(6, intOf(4), intOf(-4), textOf("a")),
		listsOf(4, intOf(0), intOf(mostNum), textOf(""), impl.Val{}, impl.Val{Ty: tyInt, S: "a"}, impl.Val{Ty: 3}),
		listsOf(10, textOf("a"), textOf("b")),
	) {
		wantRuns(t, l, plainRuns(l)...)
		wantRunCode(t, l)
	}
}

func TestRunsEqualValues(t *testing.T) {
	for _, v := range []impl.Val{intOf(0), intOf(-1), intOf(mostNum), intOf(-mostNum), textOf(""), textOf("seven7"), {}, {Ty: 3, N: 2, S: "A"}, {Ty: tyText, N: 1}} {
		for k := 1; k <= mostVals+2; k++ {
			wantRuns(t, cycleOf(k, v), runOf(v, k))
			wantRunCode(t, cycleOf(k, v))
		}
		for _, k := range []int{127, 128, 255, 256, 257, 1000, 1<<16 + 1} {
			wantRuns(t, cycleOf(k, v), runOf(v, k))
			wantRunCode(t, cycleOf(k, v))
		}
	}
}

func TestRunsDifferentValues(t *testing.T) {
	for _, ty := range bothTypes() {
		for _, k := range []int{1, 2, 3, 63, mostVals, mostVals + 1, 100, 256, 257, 1000, 1<<16 + 1} {
			for _, l := range [][]impl.Val{differentVals(ty, k), cycleOf(k, valOf(ty, 0), valOf(ty, 1))} {
				var want []impl.Run
				for _, v := range l {
					want = append(want, runOf(v, 1))
				}
				wantRuns(t, l, want...)
				wantRunCode(t, l)
			}
		}
	}
	for k := range 100 {
		l := cycleOf(k, intOf(1), textOf("a"), impl.Val{})
		wantRuns(t, l, plainRuns(l)...)
		wantRunCode(t, l)
	}
}

// TestRunsOneOther puts one other value among equal ones: it splits them in the first place, in the
// last one and between them.
func TestRunsOneOther(t *testing.T) {
	for _, ty := range bothTypes() {
		for _, k := range []int{1, 2, 3, 10, mostVals, mostVals + 1} {
			for at := range k {
				l := cycleOf(k, valOf(ty, 0))
				l[at] = valOf(ty, 1)
				wantRuns(t, l, plainRuns(l)...)
				wantRunCode(t, l)
				l[at] = valOf(3-ty, 1)
				wantRuns(t, l, plainRuns(l)...)
				wantRunCode(t, l)
			}
		}
	}
}

// TestRunsLongest has the longest run in every place, and runs that are equally long.
func TestRunsLongest(t *testing.T) {
	for _, lengths := range listsOf(5, 1, 2, 5) {
		var l []impl.Val
		var want []impl.Run
		for i, k := range lengths {
			want = append(want, runOf(intOf(i%2), k))
			l = append(l, cycleOf(k, intOf(i%2))...)
		}
		wantRuns(t, l, want...)
		wantRunCode(t, l)
	}
}

func TestRunsWithinCapacity(t *testing.T) {
	l := intsOf(1, 1, 2, 2, 2)
	wantRuns(t, l[:0])
	wantRuns(t, l[:1], runOf(intOf(1), 1))
	wantRuns(t, l[:3], runOf(intOf(1), 2), runOf(intOf(2), 1))
	wantRuns(t, l[1:4], runOf(intOf(1), 1), runOf(intOf(2), 2))
	wantRuns(t, l[5:])
	runs := impl.Runs(l)
	wantSpread(t, runs[:1], intsOf(1, 1)...)
	wantSpread(t, runs[:0])
	wantSpread(t, append(runs, runOf(intOf(3), -1))[:2], l...)
	for _, v := range []impl.Val{intOf(1), textOf("a")} {
		wantRunCode(t, cycleOf(mostVals+1, v)[:mostVals])
		wantRunCode(t, cycleOf(mostVals, v)[:1])
		wantRunCode(t, cycleOf(mostVals, v)[:0])
	}
}

func TestSpreadTable(t *testing.T) {
	wantSpread(t, nil)
	wantSpread(t, []impl.Run{})
	wantSpread(t, []impl.Run{runOf(intOf(4), 3), runOf(intOf(1), 1)}, intsOf(4, 4, 4, 1)...)
	wantSpread(t, []impl.Run{runOf(intOf(4), 2), runOf(intOf(4), 1)}, intsOf(4, 4, 4)...)
	wantSpread(t, []impl.Run{runOf(textOf(""), 1), runOf(textOf("a"), 1)}, textsOf("", "a")...)
	wantSpread(t, []impl.Run{runOf(textOf("b"), 1), runOf(intOf(9), 2)}, textOf("b"), intOf(9), intOf(9))
	wantSpread(t, []impl.Run{runOf(impl.Val{}, 2), runOf(impl.Val{Ty: 3, N: 1, S: "A"}, 1)}, impl.Val{}, impl.Val{}, impl.Val{Ty: 3, N: 1, S: "A"})
	wantSpread(t, []impl.Run{{}})
	wantSpread(t, []impl.Run{{V: intOf(1)}})
	wantSpread(t, []impl.Run{{K: 1}}, impl.Val{})
}

// TestSpreadWrongLengths puts a wrong length first, last and between others, which spread on their own.
func TestSpreadWrongLengths(t *testing.T) {
	good := runOf(intOf(4), 2)
	for _, k := range []int{
		0, -1, -2, -mostVals, -1 << 32, 1 - 1<<32, math.MinInt, math.MinInt + 1, math.MinInt + 2, math.MinInt + 3,
		mostVals + 1, mostVals + 2, 100, 128, 256, 257, 1<<16 + 1, mostNum, mostNum + 1, 1 << 31, 1 << 32, 1<<32 + 1, 1 << 62, math.MaxInt - 64, math.MaxInt - 2, math.MaxInt - 1, math.MaxInt,
	} {
		wrong := runOf(intOf(5), k)
		for _, l := range [][]impl.Run{{wrong}, {wrong, good}, {good, wrong}, {good, wrong, good}, {wrong, wrong}, {wrong, wrong, good}, {good, good, wrong}} {
			wantSpread(t, l)
		}
	}
	wantSpread(t, []impl.Run{runOf(intOf(1), -1), runOf(intOf(2), 2)})
	wantSpread(t, []impl.Run{runOf(intOf(1), 65), runOf(intOf(2), -1)})
	wantSpread(t, []impl.Run{runOf(intOf(1), mostVals), runOf(intOf(2), 0)})
	wantSpread(t, []impl.Run{runOf(intOf(1), mostVals), runOf(intOf(2), math.MinInt)})
	wantSpread(t, []impl.Run{runOf(intOf(1), math.MaxInt), runOf(intOf(2), math.MaxInt), runOf(intOf(3), 4)})
	wantSpread(t, slices.Repeat([]impl.Run{runOf(intOf(1), 1<<62)}, 4))
	wantSpread(t, slices.Repeat([]impl.Run{runOf(intOf(1), 1<<32)}, 1<<10))
}

// TestSpreadMost splits MaxVals values, and one more, into two or three runs, and into many.
func TestSpreadMost(t *testing.T) {
	for first := 1; first <= mostVals; first++ {
		rest := mostVals - first
		one, two := runOf(intOf(1), first), runOf(textOf("b"), rest)
		if rest > 0 {
			wantSpread(t, []impl.Run{one, two}, append(cycleOf(first, one.V), cycleOf(rest, two.V)...)...)
			wantSpread(t, []impl.Run{one, two, runOf(intOf(3), 1)})
			wantSpread(t, []impl.Run{runOf(intOf(3), 1), one, two})
		}
		wantSpread(t, []impl.Run{one}, cycleOf(first, one.V)...)
		two.K++
		wantSpread(t, []impl.Run{one, two})
	}
	for _, v := range []impl.Val{intOf(1), textOf("a"), {}} {
		wantSpread(t, slices.Repeat([]impl.Run{runOf(v, 1)}, mostVals), cycleOf(mostVals, v)...)
		wantSpread(t, slices.Repeat([]impl.Run{runOf(v, 1)}, mostVals+1))
		wantSpread(t, slices.Repeat([]impl.Run{runOf(v, 2)}, mostVals/2), cycleOf(mostVals, v)...)
		wantSpread(t, slices.Repeat([]impl.Run{runOf(v, 2)}, mostVals/2+1))
		wantSpread(t, slices.Repeat([]impl.Run{runOf(v, 3)}, 21), cycleOf(63, v)...)
		wantSpread(t, slices.Repeat([]impl.Run{runOf(v, 3)}, 22))
		wantSpread(t, slices.Repeat([]impl.Run{runOf(v, 1)}, 1<<16+1))
	}
}

func TestSpreadAllShort(t *testing.T) {
	for _, lengths := range listsOf(5, -1, 0, 1, 2, 31, 63) {
		var l []impl.Run
		var want []impl.Val
		for i, k := range lengths {
			l = append(l, runOf(intOf(i/2), k))
			want = append(want, cycleOf(max(k, 0), intOf(i/2))...)
		}
		if len(lengths) > 0 && slices.Min(lengths) < 1 || len(want) > mostVals {
			want = nil
		}
		wantSpread(t, l, want...)
	}
}

func TestEncRunsBytes(t *testing.T) {
	for _, c := range []struct {
		l    []impl.Val
		want string
	}{
		{intsOf(4, 4, 4, 1), "\x04\x06\x08\x02\x02"}, {intsOf(0), "\x02\x02\x00"}, {intsOf(-1), "\x02\x02\x01"}, {intsOf(150, 150), "\x02\x04\xac\x02"},
		{intsOf(mostNum, -mostNum), "\x04\x02\x80\xa8\xd6\xb9\x07\x02\xff\xa7\xd6\xb9\x07"}, {intsOf(1, 2, 1), "\x06\x02\x02\x02\x04\x02\x02"},
		{textsOf(""), "\x02\x02\x00"}, {textsOf("a"), "\x02\x02\x01a"}, {textsOf("ab", "ab", "", "c", "c", "c"), "\x06\x04\x02ab\x02\x00\x06\x01c"}, {textsOf("seven7"), "\x02\x02\x06seven7"},
		{cycleOf(63, intOf(5)), "\x02\x7e\x0a"}, {cycleOf(64, intOf(5)), "\x02\x80\x01\x0a"}, {cycleOf(64, textOf("")), "\x02\x80\x01\x00"}, {cycleOf(64, textOf("zz")), "\x02\x80\x01\x02zz"},
	} {
		wantBytes(t, "EncRuns", impl.EncRuns(c.l), []byte(c.want))
		wantRunsDecoded(t, []byte(c.want), c.l[0].Ty, c.l)
		wantRunCode(t, c.l)
	}
	b := impl.EncRuns(differentVals(tyInt, mostVals))
	wantBytes(t, "the number of 64 runs", b[:4], []byte{128, 1, 2, 10})
}

func TestEncRunsNoType(t *testing.T) {
	for _, l := range [][]impl.Val{
		nil, {}, {{}}, {{}, {}}, {{Ty: 3}}, {intOf(1), textOf("a")}, {textOf(""), intOf(0)}, {intOf(1), intOf(1), textOf("")}, {intOf(mostNum + 1)}, {intOf(1), intOf(-mostNum - 1)},
		{textOf("seven77")}, {textOf("a"), textOf("A")}, {{Ty: tyInt, S: "a"}}, {{Ty: tyText, N: 1}}, cycleOf(mostVals+1, intOf(1)), cycleOf(mostVals+1, textOf("")), differentVals(tyText, mostVals+1),
		cycleOf(mostVals, impl.Val{}), append(cycleOf(mostVals-1, intOf(1)), textOf("a")), cycleOf(1<<16+1, intOf(0)),
	} {
		wantBytes(t, "EncRuns without a type", impl.EncRuns(l), nil)
	}
	for _, v := range wrongVals() {
		for _, l := range [][]impl.Val{{v}, {v, v}, {intOf(1), v}, {v, textOf("a")}, {textOf("a"), textOf("a"), v}} {
			wantBytes(t, "EncRuns with an invalid value", impl.EncRuns(l), nil)
		}
	}
}

func TestRunsRoundTrip(t *testing.T) {
	for _, v := range goodVals() {
		for _, l := range [][]impl.Val{{v}, {v, v}, {v, valOf(v.Ty, 9), v}, cycleOf(mostVals, v)} {
			wantRunCode(t, l)
		}
	}
	for _, ty := range bothTypes() {
		for k := 1; k <= mostVals; k++ {
			wantRunCode(t, someVals(ty, k))
			wantRunCode(t, cycleOf(k, valOf(ty, 0), valOf(ty, 0), valOf(ty, 1)))
			for split := range k {
				wantRunCode(t, append(cycleOf(split, valOf(ty, 0)), cycleOf(k-split, valOf(ty, 1))...))
			}
		}
	}
}

// runSamples returns columns with runs of every kind.
func runSamples() [][]impl.Val {
	var out [][]impl.Val
	for _, ty := range bothTypes() {
		for _, k := range []int{1, 2, 3, 20, 63, mostVals} {
			out = append(out, cycleOf(k, valOf(ty, 0)), differentVals(ty, k), someVals(ty, k), cycleOf(k, valOf(ty, 0), valOf(ty, 0), valOf(ty, 1)))
		}
	}
	return out
}

func TestDecRunsOtherCounts(t *testing.T) {
	for _, l := range runSamples() {
		b, ty, k := impl.EncRuns(l), l[0].Ty, len(l)
		for other := -2; other <= 2*mostVals; other++ {
			if other != k {
				wantRunsNotDecoded(t, b, ty, other)
			}
		}
		for _, other := range []int{-k, k + 256, k + 1<<32, k - 1<<32, math.MaxInt, math.MinInt, math.MinInt + k} {
			wantRunsNotDecoded(t, b, ty, other)
		}
	}
}

func TestDecRunsCutOff(t *testing.T) {
	for _, l := range runSamples() {
		b, ty, k := impl.EncRuns(l), l[0].Ty, len(l)
		for end := range len(b) {
			wantRunsNotDecoded(t, b[:end], ty, k)
			wantRunsNotDecoded(t, slices.Clone(b[:end]), ty, k)
		}
		wantRunsNotDecoded(t, b[1:], ty, k)
	}
}

func TestDecRunsLeftOver(t *testing.T) {
	for _, l := range runSamples() {
		b, ty, k := impl.EncRuns(l), l[0].Ty, len(l)
		for c := range 256 {
			wantRunsNotDecoded(t, append(slices.Clone(b), byte(c)), ty, k)
		}
		more := plainRunCode(runOf(valOf(ty, 7), 1))[1:]
		wantRunsNotDecoded(t, append(slices.Clone(b), more...), ty, k)
		wantRunsNotDecoded(t, append(slices.Clone(b), more...), ty, k+1)
		wantRunsNotDecoded(t, append(slices.Clone(b), b...), ty, k)
		wantRunsNotDecoded(t, append(slices.Clone(b), b...), ty, 2*k)
		wantRunsNotDecoded(t, append([]byte{0}, b...), ty, k)
	}
}

func TestDecRunsTypes(t *testing.T) {
	for _, l := range runSamples() {
		for _, ty := range wrongTypes() {
			wantRunsNotDecoded(t, impl.EncRuns(l), ty, len(l))
		}
	}
	for _, ty := range wrongTypes() {
		wantRunsNotDecoded(t, []byte{2, 2, 0}, ty, 1)
		wantRunsNotDecoded(t, []byte{2, 2}, ty, 1)
		wantRunsNotDecoded(t, []byte{0}, ty, 0)
	}
	wantRunsNotDecoded(t, impl.EncRuns(intsOf(4, 4)), tyText, 2)
	wantRunsNotDecoded(t, impl.EncRuns(textsOf("a", "a")), tyInt, 2)
	wantRunsDecoded(t, impl.EncRuns(intsOf(0, 0)), tyText, textsOf("", ""))
	wantRunsDecoded(t, impl.EncRuns(textsOf("")), tyInt, intsOf(0))
}

func TestDecRunsNoBytes(t *testing.T) {
	for _, ty := range append(bothTypes(), wrongTypes()...) {
		for _, k := range []int{-1, 0, 1, 2, mostVals, mostVals + 1, math.MinInt, math.MaxInt} {
			wantRunsNotDecoded(t, nil, ty, k)
			wantRunsNotDecoded(t, []byte{}, ty, k)
		}
	}
}

// forgedNums returns integers around those that a column can have, and large ones of both signs.
func forgedNums() []int {
	out := []int{mostNum, mostNum - 1, -mostNum, 1 - mostNum}
	for n := -2 * mostVals; n <= 4*mostVals+1; n++ {
		out = append(out, n)
	}
	for p := 1 << 9; p < mostNum; p *= 2 {
		out = append(out, p-1, p, p+1, -p-1, -p, 1-p)
	}
	return out
}

// TestDecRunsNumber forges the number of runs: fewer leave bytes over, and more are not there.
func TestDecRunsNumber(t *testing.T) {
	for _, l := range runSamples() {
		runs := plainRuns(l)
		tail := plainRunCode(runs...)[len(plainNum(len(runs))):]
		for _, n := range forgedNums() {
			if n != len(runs) {
				wantRunsNotDecoded(t, append(plainNum(n), tail...), l[0].Ty, len(l))
			}
		}
		for _, n := range []string{"", "\x80", "\x80\x00", "\x82\x00", "\x82\x80\x00", "\x80\x80\x80\x80\x00", "\x82\xa8\xd6\xb9\x07", "\xff\xff\xff\xff\x0f", "\xff\xff\xff\xff\xff\xff\xff\xff\xff\x01"} {
			wantNoRunCode(t, append([]byte(n), tail...))
		}
	}
	for _, n := range forgedNums() {
		wantNoRunCode(t, plainNum(n))
	}
	wantNoRunCode(t, []byte{0})
	wantNoRunCode(t, []byte{0, 2, 0})
	wantNoRunCode(t, []byte{1, 2, 0})
}

// TestDecRunsLength forges the length of one run, with the number of values that would result.
func TestDecRunsLength(t *testing.T) {
	for _, ty := range bothTypes() {
		a, b := valOf(ty, 0), valOf(ty, 1)
		for _, n := range forgedNums() {
			for _, runs := range [][]impl.Run{{runOf(a, n)}, {runOf(a, n), runOf(b, 2)}, {runOf(a, 2), runOf(b, n)}, {runOf(a, 2), runOf(b, n), runOf(a, 1)}} {
				sum := 0
				for _, r := range runs {
					sum += r.K
				}
				code := plainRunCode(runs...)
				if n < 1 || sum > mostVals {
					for _, k := range []int{n, sum, 0, 1, 2, 3, mostVals} {
						wantRunsNotDecoded(t, code, ty, k)
					}
				} else if l, ok := impl.DecRuns(code, ty, sum); !ok || !slices.Equal(plainRuns(l), runs) {
					t.Errorf("DecRuns of %v = %v, %v", runs, l, ok)
				}
			}
		}
		wantNoRunCode(t, plainRunCode(runOf(a, -1), runOf(b, 2)))
		wantNoRunCode(t, plainRunCode(runOf(a, 0), runOf(b, 2)))
		wantNoRunCode(t, plainRunCode(runOf(a, mostNum), runOf(b, -mostNum), runOf(a, 2)))
		wantNoRunCode(t, plainRunCode(slices.Repeat([]impl.Run{runOf(a, 1), runOf(b, 1)}, mostVals/2+1)...))
		wantNoRunCode(t, plainRunCode(append(slices.Repeat([]impl.Run{runOf(a, 1), runOf(b, 1)}, mostVals/2), runOf(a, 1))...))
	}
	for _, k := range []string{"", "\x82\x00", "\x80", "\x82\x80\x00", "\x82\xa8\xd6\xb9\x07"} {
		wantNoRunCode(t, []byte("\x02"+k+"\x03red"))
		wantNoRunCode(t, []byte("\x02"+k))
	}
}

// TestDecRunsAlike joins no adjacent runs with equal values, whatever their lengths.
func TestDecRunsAlike(t *testing.T) {
	wantNoRunCode(t, []byte{4, 4, 8, 2, 8})
	for _, ty := range bothTypes() {
		a, b := valOf(ty, 0), valOf(ty, 1)
		for _, lengths := range listsOf(3, 1, 2, 30) {
			var alike, apart []impl.Run
			sum := 0
			for i, k := range lengths {
				alike, apart = append(alike, runOf(a, k)), append(apart, runOf([]impl.Val{a, b}[i%2], k))
				sum += k
			}
			if len(lengths) > 1 {
				wantNoRunCode(t, plainRunCode(alike...))
				wantNoRunCode(t, plainRunCode(append([]impl.Run{runOf(b, 1)}, alike...)...))
				wantNoRunCode(t, plainRunCode(append(slices.Clone(alike), runOf(b, 1))...))
			}
			if sum > 0 && sum <= mostVals {
				wantRunsDecoded(t, plainRunCode(apart...), ty, impl.Spread(apart))
			}
		}
		wantNoRunCode(t, plainRunCode(slices.Repeat([]impl.Run{runOf(a, 1)}, mostVals)...))
	}
}

func TestDecRunsWrongValue(t *testing.T) {
	for _, s := range wrongTexts() {
		if len(s) < 256 {
			code := append([]byte{byte(len(s))}, s...)
			wantRunsNotDecoded(t, append([]byte{2, 2}, code...), tyText, 1)
			wantRunsNotDecoded(t, slices.Concat([]byte{4, 2, 1, 'b', 2}, code), tyText, 2)
			wantRunsNotDecoded(t, slices.Concat([]byte{4, 2}, code, []byte{2, 1, 'b'}), tyText, 2)
		}
	}
	for length := 1; length < 256; length++ {
		for have := range min(length, 8) {
			wantRunsNotDecoded(t, append([]byte{2, 2, byte(length)}, bytes.Repeat([]byte{'a'}, have)...), tyText, 1)
		}
	}
	for _, code := range []string{"", "\x80", "\x80\x00", "\xff\x80\x00", "\x80\xa8\xd6\xb9", "\x82\xa8\xd6\xb9\x07", "\x81\xa8\xd6\xb9\x07", "\xff\xff\xff\xff\x7f", "\x80\x80\x80\x80\x80\x01"} {
		wantRunsNotDecoded(t, []byte("\x02\x02"+code), tyInt, 1)
		wantRunsNotDecoded(t, []byte("\x04\x02\x08\x02"+code), tyInt, 2)
		wantRunsNotDecoded(t, []byte("\x04\x02"+code+"\x02\x08"), tyInt, 2)
	}
}

// TestDecRunsTooMany has the right number of values, which is too large.
func TestDecRunsTooMany(t *testing.T) {
	for _, ty := range bothTypes() {
		wantRunsDecoded(t, plainRunCode(runOf(valOf(ty, 0), mostVals)), ty, cycleOf(mostVals, valOf(ty, 0)))
		for _, k := range []int{mostVals + 1, mostVals + 2, 100, 256, 1000, 1<<16 + 1} {
			for _, l := range [][]impl.Val{cycleOf(k, valOf(ty, 0)), differentVals(ty, k), cycleOf(k, valOf(ty, 0), valOf(ty, 1))} {
				wantRunsNotDecoded(t, plainRunCode(plainRuns(l)...), ty, k)
				wantRunsNotDecoded(t, plainRunCode(plainRuns(l)...), ty, mostVals)
			}
		}
		wantRunsNotDecoded(t, plainRunCode(runOf(valOf(ty, 0), mostNum)), ty, mostNum)
	}
}

func TestDecRunsWithinCapacity(t *testing.T) {
	whole := []byte("\x04\x02\x01a\x04\x01b")
	wantRunsDecoded(t, whole, tyText, textsOf("a", "b", "b"))
	for end := range len(whole) {
		for k := range mostVals + 1 {
			wantRunsNotDecoded(t, whole[:end], tyText, k)
		}
	}
	wantRunsDecoded(t, append(slices.Clone(whole), 0, 0)[:len(whole)], tyText, textsOf("a", "b", "b"))
}

// wantPlainRunsDecoded checks that b is decoded exactly if it is an encoding, and then for one number
// of values alone.
func wantPlainRunsDecoded(t *testing.T, b []byte) {
	t.Helper()
	for _, ty := range bothTypes() {
		want, ok := plainRunsDecode(b, ty)
		for _, k := range []int{0, 1, 2, 3, 4, 32, mostVals, mostVals + 1} {
			if !ok || k != len(want) {
				wantRunsNotDecoded(t, b, ty, k)
			}
		}
		if ok {
			wantRunsDecoded(t, b, ty, want)
			wantBytes(t, "the encoding of what was decoded", impl.EncRuns(want), b)
		}
	}
}

func TestRunsDecodedAreEncodings(t *testing.T) {
	wantPlainRunsDecoded(t, nil)
	for x := range 256 {
		wantPlainRunsDecoded(t, []byte{byte(x)})
		for y := range 256 {
			wantPlainRunsDecoded(t, []byte{byte(x), byte(y)})
			wantPlainRunsDecoded(t, []byte{2, byte(x), byte(y)})
			wantPlainRunsDecoded(t, []byte{byte(x), 2, byte(y)})
			wantPlainRunsDecoded(t, []byte{2, 4, byte(x), byte(y)})
			wantPlainRunsDecoded(t, []byte{4, byte(x), 0, 2, byte(y)})
			wantPlainRunsDecoded(t, []byte{4, 2, byte(x), 2, byte(y)})
		}
	}
	for _, b := range slices.Concat(listsOf[byte](5, 0, 1, 2, 4, 6, 'a', 128), listsOf[byte](8, 0, 2, 4)) {
		wantPlainRunsDecoded(t, b)
	}
}

func TestNearRunCodes(t *testing.T) {
	for _, l := range [][]impl.Val{
		intsOf(0), intsOf(mostNum), intsOf(4, 4, 4, 1), intsOf(1, 2, 1), intsOf(-70, -70), cycleOf(mostVals, intOf(5)), cycleOf(mostVals-1, intOf(5)),
		textsOf(""), textsOf("a", "a"), textsOf("ab", "", "", "c"), cycleOf(mostVals, textOf("zz")),
	} {
		for _, near := range nearTexts(string(impl.EncRuns(l))) {
			wantPlainRunsDecoded(t, []byte(near))
		}
	}
}

func TestRunsMemory(t *testing.T) {
	mark := impl.Val{Ty: 7, N: 77, S: "mark"}
	for _, values := range append(runSamples(), nil, []impl.Val{{}, {}, intOf(1)}, cycleOf(mostVals+1, intOf(1)), cycleOf(1000, intOf(1), intOf(1), textOf("a"))) {
		want := plainRuns(values)
		l, check := spare(t, mark, values...)
		wantRuns(t, l, want...)
		code := impl.EncRuns(l)
		first, last, other := impl.Runs(l), impl.Runs(l), impl.EncRuns(l)
		scribble(first, runOf(mark, 99))
		scribble(other, 99)
		check("the list of Runs, LongestRun, Turns and EncRuns")
		scribble(l, impl.Val{})
		if !slices.Equal(last, want) {
			t.Errorf("Runs, its argument and another result overwritten: %v, want %v", last, want)
		}
		wantBytes(t, "EncRuns, its argument and another result overwritten", code, impl.EncRuns(values))
	}
}

// TestRunsClearTheRest looks behind the end of a result, where no run may be left over.
func TestRunsClearTheRest(t *testing.T) {
	for _, l := range append(runSamples(), cycleOf(1000, intOf(1), intOf(1), textOf("a"))) {
		runs := impl.Runs(l)
		for _, r := range runs[len(runs):cap(runs)] {
			if r != (impl.Run{}) {
				t.Errorf("behind the runs of %d values is %v", len(l), r)
			}
		}
	}
}

func TestSpreadMemory(t *testing.T) {
	mark := runOf(impl.Val{Ty: 7, N: 77, S: "mark"}, 1)
	for _, runs := range [][]impl.Run{
		{}, {runOf(intOf(1), 1)}, {runOf(intOf(1), 3), runOf(textOf("a"), 2)}, {runOf(intOf(1), 1), runOf(intOf(2), 0)}, {runOf(intOf(1), mostVals)}, {runOf(intOf(1), mostVals), runOf(intOf(2), 1)},
		plainRuns(differentVals(tyText, mostVals)), plainRuns(differentVals(tyText, mostVals+1)),
	} {
		l, check := spare(t, mark, runs...)
		want := slices.Clone(impl.Spread(runs))
		first, last := impl.Spread(l), impl.Spread(l)
		scribble(first, mark.V)
		check("the list of Spread")
		scribble(l, impl.Run{})
		if !slices.Equal(last, want) {
			t.Errorf("Spread, its argument and another result overwritten: %v, want %v", last, want)
		}
	}
}

func TestDecRunsMemory(t *testing.T) {
	codes := append(argumentBytes(), []byte{0}, []byte{4, 4, 8, 2, 8})
	for _, l := range runSamples() {
		codes = append(codes, impl.EncRuns(l), append(impl.EncRuns(l), 0))
	}
	for _, code := range codes {
		b, check := spare(t, 2, code...)
		for ty := range 4 {
			for k := -1; k <= mostVals+1; k++ {
				l, _ := impl.DecRuns(b, ty, k)
				scribble(l, textOf("gone"))
			}
		}
		check("DecRuns")
	}
	for _, want := range runSamples() {
		b := impl.EncRuns(want)
		first, _ := impl.DecRuns(b, want[0].Ty, len(want))
		last, _ := impl.DecRuns(b, want[0].Ty, len(want))
		scribble(first, textOf("gone"))
		scribble(b, 'x')
		if !slices.Equal(last, want) {
			t.Errorf("DecRuns, its bytes and another result overwritten: %v, want %v", last, want)
		}
	}
}

func TestRunsStayTheSame(t *testing.T) {
	want := textsOf("ab", "ab", "", "c")
	for range 3 {
		b := impl.EncRuns(want)
		wantBytes(t, "EncRuns again", b, []byte("\x06\x04\x02ab\x02\x00\x02\x01c"))
		wantRunsDecoded(t, b, tyText, want)
		wantRunsNotDecoded(t, b, tyText, 3)
		wantRunsNotDecoded(t, b[:5], tyText, 4)
		failed, _ := impl.DecRuns(b, tyText, 5)
		scribble(failed, intOf(9))
		none := impl.EncRuns(nil)
		scribble(none, 99)
		wantBytes(t, "EncRuns of nothing", impl.EncRuns(nil), nil)
		scribble(impl.Runs(nil), runOf(intOf(9), 9))
		wantRuns(t, nil)
		scribble(impl.Spread(nil), intOf(9))
		wantSpread(t, nil)
		wantRuns(t, want, runOf(textOf("ab"), 2), runOf(textOf(""), 1), runOf(textOf("c"), 1))
		scribble(b, 0)
	}
}
