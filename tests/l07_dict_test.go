package tests

import (
	"bytes"
	"cmp"
	"math"
	"slices"
	"strconv"
	"strings"
	"testing"

	"loop.example/g00496/impl"
)

// orderPlainly compares field by field in the document's order, apart from the program.
func orderPlainly(a, b impl.Val) int {
	return cmp.Or(cmp.Compare(a.Ty, b.Ty), cmp.Compare(a.N, b.N), strings.Compare(a.S, b.S))
}

// plainDict inserts every value that is new where it belongs.
func plainDict(l []impl.Val) []impl.Val {
	var out []impl.Val
	for _, v := range l {
		if at, found := slices.BinarySearchFunc(out, v, orderPlainly); !found {
			out = slices.Insert(out, at, v)
		}
	}
	return out
}

// plainPlace searches from the end, and takes the last find.
func plainPlace(d []impl.Val, v impl.Val) int {
	place := -1
	for i := len(d) - 1; i >= 0; i-- {
		if d[i] == v {
			place = i
		}
	}
	return place
}

func plainPlaces(d, l []impl.Val) []int {
	var out []int
	for _, v := range l {
		out = append(out, plainPlace(d, v))
	}
	return out
}

// plainDictWidth counts the binary digits of the last index; the index 0 has none.
func plainDictWidth(distinct int) int {
	return len(strings.TrimLeft(strconv.FormatInt(int64(distinct-1), 2), "0"))
}

// dictCode encodes any dictionary with any indexes that fit its width, in the document's words.
func dictCode(d []impl.Val, places ...int) []byte {
	return slices.Concat(plainNum(len(d)), plainCodes(d...), plainPack(places, plainDictWidth(len(d))))
}

func plainDictCode(l []impl.Val) []byte {
	d := plainDict(l)
	return dictCode(d, plainPlaces(d, l)...)
}

// plainDictHead reads a dictionary in ascending order, and returns the bytes after it.
func plainDictHead(b []byte, ty int) ([]impl.Val, []byte, bool) {
	count, next, ok := plainGet(b, tyInt)
	if !ok || count.N < 1 {
		return nil, nil, false
	}
	b = b[next:]
	var d []impl.Val
	for i := range count.N {
		v, next, ok := plainGet(b, ty)
		if !ok || i > 0 && orderPlainly(d[i-1], v) >= 0 {
			return nil, nil, false
		}
		d, b = append(d, v), b[next:]
	}
	return d, b, true
}

// plainDictTail reads k indexes digit by digit, and checks that they refer to the whole dictionary.
func plainDictTail(d []impl.Val, b []byte, k int) ([]impl.Val, bool) {
	digits, w := plainBits(b), plainDictWidth(len(d))
	if k < max(1, len(d)) || k > mostVals || len(digits) < k*w || len(digits) >= k*w+8 || strings.Contains(digits[k*w:], "1") {
		return nil, false
	}
	var out []impl.Val
	for i := range k {
		place := 0
		for bit := range w {
			place += int(digits[i*w+bit]-'0') << bit
		}
		if place >= len(d) {
			return nil, false
		}
		out = append(out, d[place])
	}
	return out, len(plainDict(out)) == len(d)
}

func plainDictDecode(b []byte, ty, k int) ([]impl.Val, bool) {
	d, rest, ok := plainDictHead(b, ty)
	if !ok {
		return nil, false
	}
	return plainDictTail(d, rest, k)
}

func wantDict(t *testing.T, l []impl.Val, want ...impl.Val) {
	t.Helper()
	got := impl.Dict(l)
	if !slices.Equal(got, want) {
		t.Errorf("Dict of %d values %v = %d values %v, want %d values %v", len(l), l[:min(len(l), 9)], len(got), got[:min(len(got), 9)], len(want), want[:min(len(want), 9)])
	}
	for i := 1; i < len(got); i++ {
		if !impl.LessVal(got[i-1], got[i]) {
			t.Errorf("Dict of %d values %v has %v before %v", len(l), l[:min(len(l), 9)], got[i-1], got[i])
		}
	}
}

func wantInDict(t *testing.T, d []impl.Val, v impl.Val, want int) {
	t.Helper()
	if got := impl.InDict(d, v); got != want {
		t.Errorf("InDict of %d values %v and %v = %d, want %d", len(d), d[:min(len(d), 9)], v, got, want)
	}
}

// wantPlaces checks the places of a list, or that there are none if one of them is -1.
func wantPlaces(t *testing.T, d, l []impl.Val, want ...int) {
	t.Helper()
	has := !slices.Contains(want, -1)
	if !has {
		want = nil
	}
	if got, ok := impl.Places(d, l); !slices.Equal(got, want) || ok != has {
		t.Errorf("Places of %d values %v and %d values %v = %v, %v; want %v, %v", len(d), d[:min(len(d), 9)], len(l), l[:min(len(l), 9)], got[:min(len(got), 9)], ok, want[:min(len(want), 9)], has)
	}
}

func wantPicked(t *testing.T, d []impl.Val, l []int, want ...impl.Val) {
	t.Helper()
	if got, ok := impl.Picked(d, l); !slices.Equal(got, want) || !ok {
		t.Errorf("Picked of %d values %v and %d indexes %v = %v, %v; want %v, true", len(d), d[:min(len(d), 9)], len(l), l[:min(len(l), 9)], got[:min(len(got), 9)], ok, want[:min(len(want), 9)])
	}
}

func wantNotPicked(t *testing.T, d []impl.Val, l []int) {
	t.Helper()
	if got, ok := impl.Picked(d, l); len(got) != 0 || ok {
		t.Errorf("Picked of %d values %v and %d indexes %v = %v, %v; want none, false", len(d), d[:min(len(d), 9)], len(l), l[:min(len(l), 9)], got[:min(len(got), 9)], ok)
	}
}

func wantDictDecoded(t *testing.T, b []byte, ty int, want []impl.Val) {
	t.Helper()
	if l, ok := impl.DecDict(b, ty, len(want)); !slices.Equal(l, want) || !ok {
		t.Errorf("DecDict(%v, %d, %d) = %v, %v; want %v, true", b, ty, len(want), l, ok, want)
	}
}

func wantDictNotDecoded(t *testing.T, b []byte, ty, k int) {
	t.Helper()
	if l, ok := impl.DecDict(b, ty, k); len(l) != 0 || ok {
		t.Errorf("DecDict(%v, %d, %d) = %v, %v; want none, false", b, ty, k, l, ok)
	}
}

// wantNoDictCode checks that b is decoded for no number of values and no type.
func wantNoDictCode(t *testing.T, b []byte) {
	t.Helper()
	for ty := range 4 {
		for k := -1; k <= mostVals+1; k++ {
			wantDictNotDecoded(t, b, ty, k)
		}
	}
}

// wantDictParts checks the dictionary of a list, and that its places lead back to the list.
func wantDictParts(t *testing.T, l []impl.Val) {
	t.Helper()
	d := plainDict(l)
	wantDict(t, l, d...)
	places := plainPlaces(d, l)
	wantPlaces(t, d, l, places...)
	wantPicked(t, d, places, l...)
	for i, v := range d {
		wantInDict(t, d, v, i)
		wantInDict(t, l, v, plainPlace(l, v))
	}
}

// wantDictCode checks the encoding of a list by its type, and that it is decoded again.
func wantDictCode(t *testing.T, l []impl.Val) {
	t.Helper()
	b, ty := impl.EncDict(l), fittingType(l)
	if ty == 0 {
		wantBytes(t, "EncDict of "+strconv.Itoa(len(l))+" values of no type", b, nil)
		return
	}
	wantBytes(t, "EncDict of "+strconv.Itoa(len(l))+" values", b, plainDictCode(l))
	wantDictDecoded(t, b, ty, l)
}

// dictSamples returns columns with every number of distinct values that matters to the width.
func dictSamples() [][]impl.Val {
	var out [][]impl.Val
	for _, ty := range bothTypes() {
		for _, k := range []int{1, 2, 3, 5, 20, 63, mostVals} {
			out = append(out, cycleOf(k, valOf(ty, 0)), differentVals(ty, k), someVals(ty, k), cycleOf(k, differentVals(ty, 2)...), cycleOf(k, differentVals(ty, 3)...), cycleOf(k, differentVals(ty, 9)...))
		}
	}
	return out
}

// descending returns k values of this type that all differ, the greatest one first.
func descending(ty, k int) []impl.Val {
	var out []impl.Val
	for i := range k {
		if ty == tyInt {
			out = append(out, intOf(k/2-i))
		} else {
			out = append(out, textOf(strconv.Itoa(999999-i)))
		}
	}
	return out
}

func backwards(l []impl.Val) []impl.Val {
	out := slices.Clone(l)
	slices.Reverse(out)
	return out
}

func TestDictTable(t *testing.T) {
	wantDict(t, nil)
	wantDict(t, []impl.Val{})
	wantDict(t, textsOf("b", "a", "b", "c"), textsOf("a", "b", "c")...)
	wantDict(t, intsOf(7), intsOf(7)...)
	wantDict(t, textsOf(""), textsOf("")...)
	wantDict(t, textsOf("q", "q"), textsOf("q")...)
	wantDict(t, intsOf(0, 0, 0), intsOf(0)...)
	wantDict(t, intsOf(1, 2, 1, 2), intsOf(1, 2)...)
	wantDict(t, intsOf(10, 9, -1, -10, 0, 9, -1), intsOf(-10, -1, 0, 9, 10)...)
	wantDict(t, intsOf(mostNum, -mostNum, mostNum), intsOf(-mostNum, mostNum)...)
	wantDict(t, textsOf("10", "9", "b", "", "ab", "a", "9"), textsOf("", "10", "9", "a", "ab", "b")...)
	wantDict(t, []impl.Val{textOf(""), intOf(0), textOf("0"), intOf(mostNum), intOf(0), textOf("")}, intOf(0), intOf(mostNum), textOf(""), textOf("0"))
	wantDict(t, []impl.Val{{}, {}}, impl.Val{})
	wantDict(t, []impl.Val{{Ty: 3, N: 1, S: "A"}, intOf(5), {Ty: tyInt, N: 5, S: "a"}, {}, {Ty: tyText, N: -1, S: "z"}, textOf("a"), {Ty: -1, N: 9}, intOf(5)},
		impl.Val{Ty: -1, N: 9}, impl.Val{}, intOf(5), impl.Val{Ty: tyInt, N: 5, S: "a"}, impl.Val{Ty: tyText, N: -1, S: "z"}, textOf("a"), impl.Val{Ty: 3, N: 1, S: "A"})
}

// TestDictRising has values of all types, valid or not, in several orders and several times.
func TestDictRising(t *testing.T) {
	want := risingVals()
	mixed := slices.Clone(want)
	for i := range mixed {
		mixed[i] = want[(i*1009)%len(want)]
	}
	for _, l := range [][]impl.Val{want, backwards(want), mixed, backwards(mixed), slices.Concat(want, want), slices.Concat(mixed, want, backwards(mixed))} {
		wantDict(t, l, want...)
	}
}

// TestDictFields has values that differ in one field, valid or not.
func TestDictFields(t *testing.T) {
	for _, v := range []impl.Val{{}, intOf(5), textOf("a"), {Ty: tyInt, N: 5, S: "a"}, {Ty: math.MaxInt, N: math.MinInt, S: "\xff"}} {
		for _, other := range []impl.Val{
			{Ty: v.Ty ^ 1, N: v.N, S: v.S}, {Ty: v.Ty ^ 1<<32, N: v.N, S: v.S}, {Ty: v.Ty, N: v.N ^ 1, S: v.S}, {Ty: v.Ty, N: v.N ^ 1<<40, S: v.S}, {Ty: v.Ty, N: ^v.N, S: v.S},
			{Ty: v.Ty, N: v.N, S: v.S + "a"}, {Ty: v.Ty, N: v.N, S: v.S + "\x00"}, {Ty: v.Ty, N: v.N, S: "b"},
		} {
			for _, l := range [][]impl.Val{{v, other}, {other, v}, {v, v, other, v}} {
				wantDictParts(t, l)
			}
			wantInDict(t, []impl.Val{v}, other, -1)
			wantInDict(t, []impl.Val{v, v, other}, other, 2)
			wantPlaces(t, []impl.Val{v}, []impl.Val{v, other}, 0, -1)
		}
	}
}

func TestDictAllShort(t *testing.T) {
	for _, l := range slices.Concat(
		listsOf(6, intOf(4), intOf(-4), textOf("a")),
		listsOf(4, intOf(0), intOf(mostNum), textOf(""), impl.Val{}, impl.Val{Ty: tyInt, S: "a"}, impl.Val{Ty: 3}),
		listsOf(5, textOf("a"), textOf("b"), textOf("c"), textOf("")),
		listsOf(9, intOf(1), intOf(0)),
	) {
		wantDictParts(t, l)
		wantDictCode(t, l)
	}
}

func TestDictSingleValue(t *testing.T) {
	for _, v := range []impl.Val{intOf(0), intOf(-1), intOf(mostNum), intOf(-mostNum), textOf(""), textOf("seven7"), {}, {Ty: 3, N: 2, S: "A"}, {Ty: tyText, N: 1}} {
		for k := 1; k <= mostVals+2; k++ {
			wantDictParts(t, cycleOf(k, v))
			wantDictCode(t, cycleOf(k, v))
		}
		for _, k := range []int{127, 128, 255, 256, 257, 1000, 1<<16 + 1} {
			wantDict(t, cycleOf(k, v), v)
			wantPlaces(t, []impl.Val{v}, cycleOf(k, v), make([]int, k)...)
			wantPicked(t, []impl.Val{v}, make([]int, k), cycleOf(k, v)...)
			wantDictCode(t, cycleOf(k, v))
		}
	}
}

func TestDictDescending(t *testing.T) {
	for _, ty := range bothTypes() {
		for _, k := range []int{1, 2, 3, 4, 5, 8, 9, 63, mostVals, mostVals + 1, 100, 256, 257, 1000, 1<<16 + 1} {
			l := descending(ty, k)
			d := backwards(l)
			wantDict(t, l, d...)
			wantDict(t, d, d...)
			wantDict(t, slices.Concat(l, d, l), d...)
			places := make([]int, k)
			for i := range places {
				places[i] = k - 1 - i
			}
			wantPlaces(t, d, l, places...)
			wantPicked(t, d, places, l...)
			wantInDict(t, d, l[0], k-1)
			wantDictCode(t, l)
			wantDictCode(t, d)
		}
	}
	both := slices.Concat(descending(tyText, 100), descending(tyInt, 100))
	wantDict(t, both, backwards(both)...)
}

// TestDictOneOther puts one other value among equal ones: in the first place, in the last one and
// between them.
func TestDictOneOther(t *testing.T) {
	for _, ty := range bothTypes() {
		for _, k := range []int{1, 2, 3, 10, mostVals, mostVals + 1} {
			for at := range k {
				for _, other := range []impl.Val{valOf(ty, 1), valOf(ty, -1), valOf(3-ty, 1), {}} {
					l := cycleOf(k, valOf(ty, 0))
					l[at] = other
					wantDictParts(t, l)
					wantDictCode(t, l)
				}
			}
		}
	}
}

func TestDictWithinCapacity(t *testing.T) {
	l := intsOf(3, 1, 2, 0, 1)
	wantDict(t, l[:0])
	wantDict(t, l[:2], intsOf(1, 3)...)
	wantDict(t, l[1:3], intsOf(1, 2)...)
	wantDict(t, l[5:])
	wantInDict(t, l[:3], intOf(0), -1)
	wantInDict(t, l[:0], intOf(3), -1)
	wantInDict(t, l[2:], intOf(1), 2)
	wantInDict(t, l[2:4], intOf(1), -1)
	wantPlaces(t, l[:3], l[:4], 0, 1, 2, -1)
	wantPlaces(t, l[:3], l[:3], 0, 1, 2)
	wantPlaces(t, l[:0], l[:0])
	wantPicked(t, l[:3], []int{2, 0}, intsOf(2, 3)...)
	wantPicked(t, l[:3], []int{2, 3}[:1], intOf(2))
	wantNotPicked(t, l[:3], []int{3})
	wantNotPicked(t, l[:0], []int{0})
	for _, v := range []impl.Val{intOf(1), textOf("a")} {
		wantDictCode(t, cycleOf(mostVals+1, v)[:mostVals])
		wantDictCode(t, cycleOf(mostVals, v)[:1])
		wantDictCode(t, cycleOf(mostVals, v)[:0])
	}
}

func TestInDictTable(t *testing.T) {
	for _, v := range []impl.Val{{}, intOf(0), intOf(1), textOf(""), textOf("a"), {Ty: 3, N: 1, S: "A"}} {
		wantInDict(t, nil, v, -1)
		wantInDict(t, []impl.Val{}, v, -1)
		wantInDict(t, []impl.Val{v}, v, 0)
		wantInDict(t, []impl.Val{v, v, v}, v, 0)
	}
	d := textsOf("a", "b", "c")
	for i, v := range d {
		wantInDict(t, d, v, i)
	}
	wantInDict(t, d, textOf("x"), -1)
	wantInDict(t, d, textOf(""), -1)
	wantInDict(t, d, textOf("ab"), -1)
	wantInDict(t, d, intOf(0), -1)
	wantInDict(t, d, impl.Val{Ty: tyText, N: 1, S: "a"}, -1)
	several := intsOf(5, 3, 9, 3, 1, 9, 5)
	for _, c := range []struct{ n, want int }{{5, 0}, {3, 1}, {9, 2}, {1, 4}, {0, -1}, {2, -1}, {4, -1}, {10, -1}} {
		wantInDict(t, several, intOf(c.n), c.want)
	}
	long := append(differentVals(tyInt, 1000), differentVals(tyInt, 1001)...)
	for i := range 1000 {
		wantInDict(t, long, valOf(tyInt, i), i)
	}
	wantInDict(t, long, valOf(tyInt, 1000), 2000)
	wantInDict(t, long, valOf(tyInt, 1001), -1)
}

// TestPlacesAllShort has every short d with every short l: sorted or not, with values that occur in d
// several times and with values that do not.
func TestPlacesAllShort(t *testing.T) {
	values := []impl.Val{intOf(0), textOf(""), intOf(-1), {}}
	lists := listsOf(3, values...)
	for _, d := range slices.Concat(lists, listsOf(6, values[:2]...)) {
		for _, v := range values {
			wantInDict(t, d, v, plainPlace(d, v))
		}
		for _, l := range lists {
			wantPlaces(t, d, l, plainPlaces(d, l)...)
		}
	}
}

func TestPlacesTable(t *testing.T) {
	wantPlaces(t, nil, nil)
	wantPlaces(t, []impl.Val{}, []impl.Val{})
	wantPlaces(t, intsOf(1, 2), nil)
	wantPlaces(t, nil, intsOf(1), -1)
	wantPlaces(t, nil, []impl.Val{{}}, -1)
	wantPlaces(t, []impl.Val{{}}, []impl.Val{{}, {}}, 0, 0)
	wantPlaces(t, textsOf("a", "b", "c"), textsOf("b", "a", "b", "c"), 1, 0, 1, 2)
	wantPlaces(t, textsOf("c", "a", "b"), textsOf("b", "a", "b", "c"), 2, 1, 2, 0)
	wantPlaces(t, intsOf(4, 4, 4), intsOf(4, 4), 0, 0)
	wantPlaces(t, intsOf(7, 4, 7, 4, 2), intsOf(2, 4, 7), 4, 1, 0)
	wantPlaces(t, intsOf(0), textsOf(""), -1)
	wantPlaces(t, textsOf("1"), intsOf(1), -1)
	d := differentVals(tyText, 70)
	for k := range 70 {
		for _, missing := range []impl.Val{textOf("no"), valOf(tyText, 70), intOf(0), {}, {Ty: tyText, N: 1, S: "x0"}} {
			l := slices.Clone(d)
			l[k] = missing
			wantPlaces(t, d, l, -1)
			wantPlaces(t, l, d, -1)
		}
	}
	wantPlaces(t, slices.Concat(d, d), d, listFrom(0, 70)...)
	wantPlaces(t, slices.Concat(backwards(d), d), backwards(d), listFrom(0, 70)...)
	wantPlaces(t, slices.Concat(d[:1], d), d, append([]int{0}, listFrom(2, 69)...)...)
}

// listFrom returns k integers that count up.
func listFrom(first, k int) []int {
	var out []int
	for i := range k {
		out = append(out, first+i)
	}
	return out
}

func TestPickedTable(t *testing.T) {
	wantPicked(t, nil, nil)
	wantPicked(t, []impl.Val{}, []int{})
	wantPicked(t, intsOf(1, 2), nil)
	wantPicked(t, intsOf(1, 2), []int{})
	wantPicked(t, intsOf(7), []int{0, 0, 0}, intsOf(7, 7, 7)...)
	wantPicked(t, textsOf("a", "b", "c"), []int{1, 0, 1, 2}, textsOf("b", "a", "b", "c")...)
	wantPicked(t, textsOf("c", "a", "a"), []int{2, 0, 1}, textsOf("a", "c", "a")...)
	wantPicked(t, []impl.Val{textOf("b"), {}, {Ty: 3, N: 1, S: "A"}}, []int{2, 1, 0}, impl.Val{Ty: 3, N: 1, S: "A"}, impl.Val{}, textOf("b"))
	wantPicked(t, differentVals(tyInt, 1000), listFrom(0, 1000), differentVals(tyInt, 1000)...)
	wantPicked(t, differentVals(tyInt, 1000), listFrom(900, 100), differentVals(tyInt, 1000)[900:]...)
}

// TestPickedOutOfRange puts one wrong index first, last and between others, which are picked on their
// own.
func TestPickedOutOfRange(t *testing.T) {
	for _, k := range []int{0, 1, 2, 3, mostVals, 100, 256} {
		d := differentVals(tyText, k)
		for _, wrong := range []int{-1, -2, -k, -k - 1, k, k + 1, k + 2, k + 256, k - 1 + 1<<32, 1 << 31, 1 << 32, 1<<32 + 1, -1 << 32, 1 - 1<<32, 1 << 62, math.MaxInt, math.MaxInt - 1, math.MinInt, math.MinInt + 1} {
			if wrong >= 0 && wrong < k {
				continue
			}
			wantNotPicked(t, d, []int{wrong})
			wantNotPicked(t, d, []int{wrong, wrong})
			if k > 0 {
				wantPicked(t, d, []int{0, k - 1}, d[0], d[k-1])
				for _, l := range [][]int{{wrong, 0}, {0, wrong}, {k - 1, wrong, 0}, append(listFrom(0, k), wrong), append([]int{wrong}, listFrom(0, k)...)} {
					wantNotPicked(t, d, l)
				}
			}
		}
	}
}

func TestPickedAllShort(t *testing.T) {
	for _, d := range listsOf(3, intOf(4), textOf("a"), impl.Val{}) {
		for _, l := range listsOf(3, -1, 0, 1, 2, 3) {
			var want []impl.Val
			for _, at := range l {
				if at >= 0 && at < len(d) {
					want = append(want, d[at])
				}
			}
			if len(want) == len(l) {
				wantPicked(t, d, l, want...)
			} else {
				wantNotPicked(t, d, l)
			}
		}
	}
}

func TestEncDictBytes(t *testing.T) {
	for _, c := range []struct {
		l    []impl.Val
		want string
	}{
		{textsOf("b", "a", "b", "c"), "\x06\x01a\x01b\x01c\x91"}, {textsOf("q", "q"), "\x02\x01q"}, {textsOf(""), "\x02\x00"}, {textsOf("", ""), "\x02\x00"}, {textsOf("seven7"), "\x02\x06seven7"},
		{intsOf(0), "\x02\x00"}, {intsOf(-1, -1, -1), "\x02\x01"}, {intsOf(150), "\x02\xac\x02"}, {intsOf(mostNum, -mostNum), "\x04\xff\xa7\xd6\xb9\x07\x80\xa8\xd6\xb9\x07\x01"},
		{intsOf(1, 2), "\x04\x02\x04\x02"}, {intsOf(2, 1), "\x04\x02\x04\x01"}, {intsOf(2, 2, 1), "\x04\x02\x04\x03"}, {intsOf(1, -1, 0), "\x06\x01\x00\x02\x12"},
		{intsOf(3, 2, 1, 0), "\x08\x00\x02\x04\x06\x1b"}, {intsOf(4, 3, 2, 1, 0), "\x0a\x00\x02\x04\x06\x08\x9c\x02"}, {textsOf("ab", "", "ab"), "\x04\x00\x02ab\x05"},
		{cycleOf(mostVals, intOf(5)), "\x02\x0a"}, {cycleOf(mostVals, textOf("zz")), "\x02\x02zz"},
		{cycleOf(mostVals, intOf(1), intOf(0)), "\x04\x00\x02\x55\x55\x55\x55\x55\x55\x55\x55"}, {cycleOf(9, intOf(0), intOf(1)), "\x04\x00\x02\xaa\x00"},
	} {
		wantBytes(t, "EncDict", impl.EncDict(c.l), []byte(c.want))
		wantDictDecoded(t, []byte(c.want), c.l[0].Ty, c.l)
		wantDictCode(t, c.l)
	}
	b := impl.EncDict(differentVals(tyInt, mostVals))
	wantBytes(t, "the number of 64 distinct values", b[:2], []byte{128, 1})
}

// TestEncDictSize counts the bytes for every number of values and of distinct ones.
func TestEncDictSize(t *testing.T) {
	for distinct := 1; distinct <= mostVals; distinct++ {
		w := 0
		for 1<<w < distinct {
			w++
		}
		for k := distinct; k <= mostVals; k++ {
			for _, ty := range bothTypes() {
				l := cycleOf(k, differentVals(ty, distinct)...)
				head := len(plainNum(distinct)) + len(plainCodes(differentVals(ty, distinct)...))
				if n := len(impl.EncDict(l)); n != head+(k*w+7)/8 {
					t.Errorf("EncDict of %d values, %d of them distinct, has %d bytes, want %d", k, distinct, n, head+(k*w+7)/8)
				}
				wantDictCode(t, l)
			}
		}
	}
}

func TestEncDictNoType(t *testing.T) {
	for _, l := range [][]impl.Val{
		nil, {}, {{}}, {{}, {}}, {{Ty: 3}}, {intOf(1), textOf("a")}, {textOf(""), intOf(0)}, {intOf(1), intOf(1), textOf("")}, {intOf(mostNum + 1)}, {intOf(1), intOf(-mostNum - 1)},
		{textOf("seven77")}, {textOf("a"), textOf("A")}, {{Ty: tyInt, S: "a"}}, {{Ty: tyText, N: 1}}, cycleOf(mostVals+1, intOf(1)), cycleOf(mostVals+1, textOf("")), differentVals(tyText, mostVals+1),
		cycleOf(mostVals, impl.Val{}), append(cycleOf(mostVals-1, intOf(1)), textOf("a")), cycleOf(1<<16+1, intOf(0)),
	} {
		wantBytes(t, "EncDict without a type", impl.EncDict(l), nil)
	}
	for _, v := range wrongVals() {
		for _, l := range [][]impl.Val{{v}, {v, v}, {intOf(1), v}, {v, textOf("a")}, {textOf("a"), textOf("a"), v}} {
			wantBytes(t, "EncDict with an invalid value", impl.EncDict(l), nil)
		}
	}
}

func TestDictRoundTrip(t *testing.T) {
	for _, v := range goodVals() {
		for _, l := range [][]impl.Val{{v}, {v, v}, {v, valOf(v.Ty, 9), v}, cycleOf(mostVals, v)} {
			wantDictCode(t, l)
		}
	}
	for _, ty := range bothTypes() {
		for k := 1; k <= mostVals; k++ {
			wantDictCode(t, someVals(ty, k))
			wantDictCode(t, backwards(someVals(ty, k)))
			for split := range k {
				wantDictCode(t, append(cycleOf(split, valOf(ty, 0)), cycleOf(k-split, valOf(ty, 1))...))
				wantDictCode(t, append(differentVals(ty, split), cycleOf(k-split, valOf(ty, 0))...))
			}
		}
	}
}

// TestDecDictSingleValue needs no bytes for the indexes, so the same bytes are decoded for every number
// of values.
func TestDecDictSingleValue(t *testing.T) {
	for _, v := range []impl.Val{intOf(0), intOf(-7), intOf(mostNum), textOf(""), textOf("q"), textOf("seven7")} {
		b := impl.EncDict([]impl.Val{v})
		wantBytes(t, "EncDict of one value", b, append([]byte{2}, plainCode(v)...))
		for k := 1; k <= mostVals; k++ {
			wantBytes(t, "EncDict of equal values", impl.EncDict(cycleOf(k, v)), b)
			wantDictDecoded(t, b, v.Ty, cycleOf(k, v))
			for c := range 256 {
				wantDictNotDecoded(t, append(slices.Clone(b), byte(c)), v.Ty, k)
			}
			wantDictNotDecoded(t, append(slices.Clone(b), make([]byte, (k+7)/8)...), v.Ty, k)
			for end := range len(b) {
				wantDictNotDecoded(t, b[:end], v.Ty, k)
			}
		}
		for _, k := range []int{0, -1, mostVals + 1, 100, 256, 257, 1 << 32, 1<<32 + 1, -1 << 32, 1 - 1<<32, math.MaxInt, math.MinInt, math.MinInt + 1} {
			wantDictNotDecoded(t, b, v.Ty, k)
		}
	}
}

func TestDecDictOtherCounts(t *testing.T) {
	for _, l := range dictSamples() {
		b, ty, k := impl.EncDict(l), l[0].Ty, len(l)
		for other := -2; other <= 2*mostVals; other++ {
			// The indexes in the padding are zeros, so a few more values, or a few less, can have this encoding.
			if want, ok := plainDictDecode(b, ty, other); ok {
				wantDictDecoded(t, b, ty, want)
			} else {
				wantDictNotDecoded(t, b, ty, other)
			}
		}
		for _, other := range []int{-k, k + 256, k + 1<<32, k - 1<<32, math.MaxInt, math.MinInt, math.MinInt + k} {
			wantDictNotDecoded(t, b, ty, other)
		}
	}
	b := impl.EncDict(textsOf("b", "a", "b", "c"))
	for _, k := range []int{0, 1, 2, 3, 5, 6, 8} {
		wantDictNotDecoded(t, b, tyText, k)
	}
	b = impl.EncDict(textsOf("b", "a", "a"))
	wantDictNotDecoded(t, b, tyText, 1)
	for k := 2; k <= 8; k++ {
		wantDictDecoded(t, b, tyText, append(textsOf("b"), cycleOf(k-1, textOf("a"))...))
	}
	wantDictNotDecoded(t, b, tyText, 9)
}

func TestDecDictCutOff(t *testing.T) {
	for _, l := range dictSamples() {
		b, ty, k := impl.EncDict(l), l[0].Ty, len(l)
		for end := range len(b) {
			wantDictNotDecoded(t, b[:end], ty, k)
			wantDictNotDecoded(t, slices.Clone(b[:end]), ty, k)
		}
	}
	wantNoDictCode(t, impl.EncDict(textsOf("b", "a", "b", "c"))[1:])
	wantNoDictCode(t, impl.EncDict(textsOf("b", "a", "b", "c"))[:7])
}

func TestDecDictLeftOver(t *testing.T) {
	for _, l := range dictSamples() {
		b, ty, k := impl.EncDict(l), l[0].Ty, len(l)
		for c := range 256 {
			wantDictNotDecoded(t, append(slices.Clone(b), byte(c)), ty, k)
		}
		wantDictNotDecoded(t, slices.Concat(b, b), ty, k)
		wantDictNotDecoded(t, slices.Concat(b, b), ty, 2*k)
		wantDictNotDecoded(t, append([]byte{0}, b...), ty, k)
	}
}

func TestDecDictTypes(t *testing.T) {
	for _, l := range dictSamples() {
		for _, ty := range wrongTypes() {
			wantDictNotDecoded(t, impl.EncDict(l), ty, len(l))
		}
	}
	for _, ty := range wrongTypes() {
		for _, b := range [][]byte{{2, 0}, {2}, {0}, {1}, {4, 0, 2, 2}} {
			wantDictNotDecoded(t, b, ty, 1)
			wantDictNotDecoded(t, b, ty, 2)
		}
	}
	wantDictNotDecoded(t, impl.EncDict(intsOf(4, 4)), tyText, 2)
	wantDictNotDecoded(t, impl.EncDict(textsOf("a", "a")), tyInt, 2)
	wantDictNotDecoded(t, impl.EncDict(textsOf("a", "b")), tyInt, 2)
	wantDictNotDecoded(t, impl.EncDict(intsOf(2, 3)), tyText, 2)
	wantDictDecoded(t, impl.EncDict(intsOf(0, 0)), tyText, textsOf("", ""))
	wantDictDecoded(t, impl.EncDict(textsOf("")), tyInt, intsOf(0))
}

func TestDecDictNoBytes(t *testing.T) {
	for _, ty := range append(bothTypes(), wrongTypes()...) {
		for _, k := range []int{-1, 0, 1, 2, mostVals, mostVals + 1, math.MinInt, math.MaxInt} {
			wantDictNotDecoded(t, nil, ty, k)
			wantDictNotDecoded(t, []byte{}, ty, k)
		}
	}
}

// TestDecDictNumber forges the number of distinct values, alone and before the values of a column.
func TestDecDictNumber(t *testing.T) {
	for _, l := range dictSamples() {
		distinct := len(plainDict(l))
		tail := plainDictCode(l)[len(plainNum(distinct)):]
		for _, n := range forgedNums() {
			b := append(plainNum(n), tail...)
			if want, ok := plainDictDecode(b, l[0].Ty, len(l)); ok {
				wantDictDecoded(t, b, l[0].Ty, want)
			} else {
				wantDictNotDecoded(t, b, l[0].Ty, len(l))
			}
			if n < 1 || n > len(l) {
				wantDictNotDecoded(t, b, l[0].Ty, len(l))
			}
		}
		for _, n := range []string{"", "\x80", "\x80\x00", "\x82\x00", "\x82\x80\x00", "\x80\x80\x80\x80\x00", "\x82\xa8\xd6\xb9\x07", "\xff\xff\xff\xff\x0f", "\xff\xff\xff\xff\xff\xff\xff\xff\xff\x01"} {
			b := append([]byte(n), tail...)
			if want, ok := plainDictDecode(b, l[0].Ty, len(l)); ok {
				wantDictDecoded(t, b, l[0].Ty, want)
			} else {
				wantDictNotDecoded(t, b, l[0].Ty, len(l))
			}
		}
	}
	for _, n := range forgedNums() {
		wantNoDictCode(t, plainNum(n))
	}
	wantNoDictCode(t, []byte{0, 0})
	wantNoDictCode(t, []byte{1, 0})
	wantNoDictCode(t, []byte{1, 0, 0})
	wantNoDictCode(t, []byte("\x82\x00\x01q"))
}

// TestDecDictMoreThanValues has a dictionary in order whose values are more than the column's.
func TestDecDictMoreThanValues(t *testing.T) {
	for _, ty := range bothTypes() {
		for distinct := 2; distinct <= mostVals+3; distinct++ {
			d := plainDict(differentVals(ty, distinct))
			for k := 1; k < distinct; k++ {
				wantDictNotDecoded(t, dictCode(d, listFrom(0, k)...), ty, k)
			}
			if distinct <= mostVals {
				wantDictDecoded(t, dictCode(d, listFrom(0, distinct)...), ty, d)
			}
		}
	}
}

// TestDecDictOrder swaps two values of the dictionary, together with their indexes and without them.
func TestDecDictOrder(t *testing.T) {
	for _, ty := range bothTypes() {
		for _, k := range []int{2, 3, 4, 5, 9, mostVals} {
			d := plainDict(differentVals(ty, k))
			wantDictDecoded(t, dictCode(d, listFrom(0, k)...), ty, d)
			for i := 1; i < k; i++ {
				for _, other := range []int{0, i - 1} {
					swapped := slices.Clone(d)
					swapped[i], swapped[other] = d[other], d[i]
					wantDictNotDecoded(t, dictCode(swapped, plainPlaces(swapped, d)...), ty, k)
					wantDictNotDecoded(t, dictCode(swapped, listFrom(0, k)...), ty, k)
				}
			}
			wantDictNotDecoded(t, dictCode(backwards(d), listFrom(0, k)...), ty, k)
		}
	}
	wantNoDictCode(t, []byte("\x06\x01a\x01c\x01b\x91"))
	wantNoDictCode(t, []byte("\x04\x04\x02\x02"))
	wantNoDictCode(t, []byte("\x04\x00\x01\x02"))
	wantNoDictCode(t, []byte("\x04\x01a\x00\x01"))
}

// TestDecDictTwice repeats a value of the dictionary, whether or not the indexes refer to both.
func TestDecDictTwice(t *testing.T) {
	for _, ty := range bothTypes() {
		for _, k := range []int{1, 2, 3, 4, 8, 31} {
			d := plainDict(differentVals(ty, k))
			for i := range k {
				twice := slices.Insert(slices.Clone(d), i, d[i])
				for _, places := range [][]int{listFrom(0, k+1), append(listFrom(0, k+1), i, i+1), cycleOfInts(2*k+2, i, i+1), make([]int, k+1)} {
					wantDictNotDecoded(t, dictCode(twice, places...), ty, len(places))
				}
			}
		}
	}
	wantNoDictCode(t, []byte("\x04\x08\x08\x02"))
	wantNoDictCode(t, []byte("\x04\x01a\x01a\x02"))
	wantNoDictCode(t, []byte("\x04\x01a\x01a\x00"))
}

// cycleOfInts returns k integers that go through the given ones again and again.
func cycleOfInts(k int, values ...int) []int {
	var out []int
	for i := range k {
		out = append(out, values[i%len(values)])
	}
	return out
}

// TestDecDictUnused leaves out every index once.
func TestDecDictUnused(t *testing.T) {
	for _, ty := range bothTypes() {
		for _, distinct := range []int{2, 3, 4, 5, 9, 17, mostVals} {
			d := plainDict(differentVals(ty, distinct))
			for unused := range distinct {
				places := slices.DeleteFunc(listFrom(0, distinct), func(at int) bool { return at == unused })
				for _, k := range []int{distinct - 1, distinct, distinct + 1, mostVals} {
					if k <= mostVals {
						wantDictNotDecoded(t, dictCode(d, cycleOfInts(k, places...)...), ty, k)
					}
				}
			}
		}
	}
	wantNoDictCode(t, []byte("\x04\x02\x04\x00"))
	wantDictNotDecoded(t, []byte("\x04\x02\x04\x03"), tyInt, 2)
	wantDictDecoded(t, []byte("\x04\x02\x04\x03"), tyInt, intsOf(2, 2, 1))
}

// TestDecDictBeyond replaces one index by one that the width holds and the dictionary does not.
func TestDecDictBeyond(t *testing.T) {
	for _, ty := range bothTypes() {
		for _, distinct := range []int{3, 5, 6, 7, 9, 15, 17, 31, 33, 60} {
			d := plainDict(differentVals(ty, distinct))
			for beyond := distinct; beyond < 1<<plainDictWidth(distinct); beyond++ {
				for _, at := range []int{0, 1, distinct / 2, distinct - 1, distinct} {
					places := slices.Insert(listFrom(0, distinct), at, beyond)
					wantDictNotDecoded(t, dictCode(d, places...), ty, distinct+1)
				}
			}
		}
	}
	wantNoDictCode(t, []byte("\x06\x01a\x01b\x01c\xd1"))
	wantDictNotDecoded(t, []byte("\x06\x00\x02\x04\xe4"), tyInt, 4)
	wantDictDecoded(t, []byte("\x06\x00\x02\x04\x24"), tyInt, intsOf(0, 1, 2, 0))
}

// TestDecDictPadding sets each bit behind the last index.
func TestDecDictPadding(t *testing.T) {
	for _, l := range dictSamples() {
		b, ty, k := impl.EncDict(l), l[0].Ty, len(l)
		for bit := k * plainDictWidth(len(plainDict(l))) % 8; bit > 0 && bit < 8; bit++ {
			set := slices.Clone(b)
			set[len(set)-1] |= 1 << bit
			wantDictNotDecoded(t, set, ty, k)
		}
	}
	wantDictDecoded(t, []byte("\x04\x02\x04\x02"), tyInt, intsOf(1, 2))
	wantDictNotDecoded(t, []byte("\x04\x02\x04\x06"), tyInt, 2)
	wantDictNotDecoded(t, []byte("\x04\x02\x04\x82"), tyInt, 2)
}

func TestDecDictWrongValue(t *testing.T) {
	for _, s := range wrongTexts() {
		if len(s) < 256 {
			code := append([]byte{byte(len(s))}, s...)
			wantDictNotDecoded(t, append([]byte{2}, code...), tyText, 1)
			wantDictNotDecoded(t, slices.Concat([]byte{4, 0}, code, []byte{2}), tyText, 2)
			wantDictNotDecoded(t, slices.Concat([]byte{4}, code, []byte{6, 'z', 'z', 'z', 'z', 'z', 'z', 2}), tyText, 2)
		}
	}
	for length := 1; length < 256; length++ {
		for have := range min(length, 8) {
			text := bytes.Repeat([]byte{'a'}, have)
			wantDictNotDecoded(t, append([]byte{2, byte(length)}, text...), tyText, 1)
			wantDictNotDecoded(t, append([]byte{4, 0, byte(length)}, text...), tyText, 2)
		}
	}
	for _, code := range []string{"", "\x80", "\x80\x00", "\xff\x80\x00", "\x80\xa8\xd6\xb9", "\x82\xa8\xd6\xb9\x07", "\x81\xa8\xd6\xb9\x07", "\xff\xff\xff\xff\x7f", "\x80\x80\x80\x80\x80\x01"} {
		wantDictNotDecoded(t, []byte("\x02"+code), tyInt, 1)
		wantDictNotDecoded(t, []byte("\x04\x01"+code+"\x02"), tyInt, 2)
		wantDictNotDecoded(t, []byte("\x04"+code+"\x80\xa8\xd6\xb9\x07\x02"), tyInt, 2)
	}
}

// TestDecDictTooMany has the right number of values, which is too large.
func TestDecDictTooMany(t *testing.T) {
	for _, ty := range bothTypes() {
		for _, k := range []int{mostVals + 1, mostVals + 2, 100, 256, 1000} {
			for _, l := range [][]impl.Val{cycleOf(k, valOf(ty, 0)), differentVals(ty, k), cycleOf(k, valOf(ty, 0), valOf(ty, 1)), cycleOf(k, differentVals(ty, mostVals)...)} {
				wantDictNotDecoded(t, plainDictCode(l), ty, k)
			}
			wantDictNotDecoded(t, plainDictCode(differentVals(ty, k)), ty, mostVals)
			wantDictNotDecoded(t, plainDictCode(cycleOf(k, differentVals(ty, mostVals)...)), ty, mostVals)
		}
		for _, l := range [][]impl.Val{cycleOf(mostVals, valOf(ty, 0)), differentVals(ty, mostVals), cycleOf(mostVals, valOf(ty, 0), valOf(ty, 1))} {
			wantDictDecoded(t, plainDictCode(l), ty, l)
		}
	}
}

func TestDecDictWithinCapacity(t *testing.T) {
	whole := []byte("\x06\x01a\x01b\x01c\x91")
	wantDictDecoded(t, whole, tyText, textsOf("b", "a", "b", "c"))
	for end := range len(whole) {
		for k := range mostVals + 1 {
			wantDictNotDecoded(t, whole[:end], tyText, k)
		}
	}
	wantDictDecoded(t, append(slices.Clone(whole), 0, 0)[:len(whole)], tyText, textsOf("b", "a", "b", "c"))
	wantDictDecoded(t, []byte("\x02\x01q\x00")[:3], tyText, textsOf("q", "q"))
}

// wantPlainDictDecoded checks that b is decoded exactly for the numbers of values for which it is an
// encoding.
func wantPlainDictDecoded(t *testing.T, b []byte) {
	t.Helper()
	for _, ty := range bothTypes() {
		d, rest, isDict := plainDictHead(b, ty)
		for _, k := range []int{0, 1, 2, 3, 4, 5, 8, 9, 32, mostVals, mostVals + 1} {
			want, ok := []impl.Val(nil), false
			if isDict {
				want, ok = plainDictTail(d, rest, k)
			}
			if !ok {
				wantDictNotDecoded(t, b, ty, k)
				continue
			}
			wantDictDecoded(t, b, ty, want)
			wantBytes(t, "the encoding of what was decoded", impl.EncDict(want), b)
		}
	}
}

func TestDictDecodedAreEncodings(t *testing.T) {
	wantPlainDictDecoded(t, nil)
	for x := range 256 {
		wantPlainDictDecoded(t, []byte{byte(x)})
		wantPlainDictDecoded(t, []byte{6, 0, 2, 4, byte(x)})
		wantPlainDictDecoded(t, []byte{6, byte(x), 2, 4, 36})
		wantPlainDictDecoded(t, []byte{10, 0, 2, 4, 6, 8, 136, byte(x), 4})
		for y := range 256 {
			wantPlainDictDecoded(t, []byte{byte(x), byte(y)})
			wantPlainDictDecoded(t, []byte{2, byte(x), byte(y)})
			wantPlainDictDecoded(t, []byte{4, byte(x), byte(y), 2})
			wantPlainDictDecoded(t, []byte{4, 0, byte(x), byte(y)})
			wantPlainDictDecoded(t, []byte{4, 0, 1, byte(x), byte(y)})
		}
	}
	for _, b := range slices.Concat(listsOf[byte](5, 0, 1, 2, 4, 6, 'a', 128), listsOf[byte](8, 0, 2, 4)) {
		wantPlainDictDecoded(t, b)
	}
}

func TestNearDictCodes(t *testing.T) {
	for _, l := range [][]impl.Val{
		intsOf(0), intsOf(mostNum), intsOf(4, 4, 4, 1), intsOf(1, 2, 1), intsOf(-70, -70), cycleOf(mostVals, intOf(5)), descending(tyInt, 5), descending(tyInt, 9),
		textsOf(""), textsOf("a", "a"), textsOf("ab", "", "", "c"), cycleOf(mostVals, textOf("zz")), textsOf("b", "a", "b", "c"),
	} {
		for _, near := range nearTexts(string(impl.EncDict(l))) {
			wantPlainDictDecoded(t, []byte(near))
		}
	}
}

// TestDictMemory overwrites arguments and results of all functions that take values.
func TestDictMemory(t *testing.T) {
	mark := impl.Val{Ty: 7, N: 77, S: "mark"}
	for _, values := range append(dictSamples(), nil, []impl.Val{{}, {}, intOf(1)}, cycleOf(mostVals+1, intOf(1)), cycleOf(1000, intOf(1), intOf(0), textOf("a"))) {
		want := plainDict(values)
		l, check := spare(t, mark, values...)
		wantDict(t, l, want...)
		code := impl.EncDict(l)
		first, last, other := impl.Dict(l), impl.Dict(l), impl.EncDict(l)
		scribble(first, mark)
		scribble(other, 99)
		impl.InDict(l, mark)
		check("the list of Dict, InDict and EncDict")
		scribble(l, impl.Val{})
		if !slices.Equal(last, want) {
			t.Errorf("Dict, its argument and another result overwritten: %v, want %v", last, want)
		}
		wantBytes(t, "EncDict, its argument and another result overwritten", code, impl.EncDict(values))
	}
}

// TestDictClearsTheRest looks behind the end of a result, where no value may be left over.
func TestDictClearsTheRest(t *testing.T) {
	for _, l := range append(dictSamples(), cycleOf(1000, intOf(1), intOf(0), textOf("a"))) {
		d := impl.Dict(l)
		for _, v := range d[len(d):cap(d)] {
			if v != (impl.Val{}) {
				t.Errorf("behind the dictionary of %d values is %v", len(l), v)
			}
		}
	}
}

func TestPlacesMemory(t *testing.T) {
	mark := impl.Val{Ty: 7, N: 77, S: "mark"}
	for _, values := range append(dictSamples(), nil, []impl.Val{mark}, append(differentVals(tyInt, 10), mark)) {
		distinct := plainDict(slices.DeleteFunc(slices.Clone(values), func(v impl.Val) bool { return v == mark }))
		d, checkDict := spare(t, mark, distinct...)
		l, check := spare(t, mark, values...)
		want := plainPlaces(distinct, values)
		wantPlaces(t, d, l, want...)
		first, _ := impl.Places(d, l)
		last, ok := impl.Places(d, l)
		scribble(first, 99)
		checkDict("the dictionary of Places")
		check("the list of Places")
		scribble(d, impl.Val{})
		scribble(l, impl.Val{})
		if ok != !slices.Contains(want, -1) || ok && !slices.Equal(last, want) {
			t.Errorf("Places, its arguments and another result overwritten: %v, want %v", last, want)
		}
	}
}

func TestPickedMemory(t *testing.T) {
	mark := impl.Val{Ty: 7, N: 77, S: "mark"}
	for _, places := range [][]int{{}, {0}, {2, 1, 0}, {0, 0, 0, 0}, {3}, {0, -1}, listFrom(0, 3), listFrom(0, 4)} {
		d, checkDict := spare(t, mark, textsOf("a", "b", "c")...)
		l, check := spare(t, 1, places...)
		first, _ := impl.Picked(d, l)
		want := slices.Clone(first)
		last, ok := impl.Picked(d, l)
		scribble(first, mark)
		checkDict("the dictionary of Picked")
		check("the list of Picked")
		scribble(d, impl.Val{})
		scribble(l, 99)
		if !slices.Equal(last, want) {
			t.Errorf("Picked, its arguments and another result overwritten: %v, %v; want %v", last, ok, want)
		}
	}
	d := textsOf("a", "b", "c")
	whole, _ := impl.Picked(d, []int{0, 1, 2})
	scribble(whole, mark)
	wantPicked(t, d, []int{0, 1, 2}, textsOf("a", "b", "c")...)
}

func TestDecDictMemory(t *testing.T) {
	codes := append(argumentBytes(), []byte{0}, []byte{4, 4, 2, 2}, []byte{2, 1, 'q'})
	for _, l := range dictSamples() {
		codes = append(codes, impl.EncDict(l), append(impl.EncDict(l), 0))
	}
	for _, code := range codes {
		b, check := spare(t, 2, code...)
		for ty := range 4 {
			for k := -1; k <= mostVals+1; k++ {
				l, _ := impl.DecDict(b, ty, k)
				scribble(l, textOf("gone"))
			}
		}
		check("DecDict")
	}
	for _, want := range dictSamples() {
		b := impl.EncDict(want)
		first, _ := impl.DecDict(b, want[0].Ty, len(want))
		last, _ := impl.DecDict(b, want[0].Ty, len(want))
		scribble(first, textOf("gone"))
		scribble(b, 'x')
		if !slices.Equal(last, want) {
			t.Errorf("DecDict, its bytes and another result overwritten: %v, want %v", last, want)
		}
	}
}

func TestDictStaysTheSame(t *testing.T) {
	want := textsOf("b", "a", "b", "c")
	for range 3 {
		b := impl.EncDict(want)
		wantBytes(t, "EncDict again", b, []byte("\x06\x01a\x01b\x01c\x91"))
		wantDictDecoded(t, b, tyText, want)
		wantDictNotDecoded(t, b, tyText, 3)
		wantDictNotDecoded(t, b[:5], tyText, 4)
		failed, _ := impl.DecDict(b, tyText, 5)
		scribble(failed, intOf(9))
		none := impl.EncDict(nil)
		scribble(none, 99)
		wantBytes(t, "EncDict of nothing", impl.EncDict(nil), nil)
		scribble(impl.Dict(nil), intOf(9))
		wantDict(t, nil)
		noPlaces, _ := impl.Places(nil, want)
		scribble(noPlaces, 9)
		wantPlaces(t, nil, want, -1)
		wantPlaces(t, want, want, 0, 1, 0, 3)
		notPicked, _ := impl.Picked(want, []int{4})
		scribble(notPicked, intOf(9))
		wantNotPicked(t, want, []int{4})
		wantDict(t, want, textsOf("a", "b", "c")...)
		scribble(b, 0)
	}
}
