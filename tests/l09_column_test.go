package tests

import (
	"bytes"
	"math"
	"slices"
	"strconv"
	"testing"

	"loop.example/g00496/impl"
)

const (
	ckPlain = 0
	ckRuns  = 1
	ckDict  = 2
	ckFrame = 3
)

func wrongKinds() []int {
	out := []int{
		-1, -2, -3, -4, 4, 5, 6, 7, 8, 127, 128, 255, -128, -255, 1 << 31, -1 << 31, 1 << 62, -1 << 62,
		math.MaxInt, math.MaxInt - 1, math.MaxInt - 2, math.MaxInt - 3, math.MinInt, math.MinInt + 1, math.MinInt + 2, math.MinInt + 3,
	}
	for kind := range 4 {
		out = append(out, kind+1<<8, kind-1<<8, kind+1<<16, kind+1<<32, kind-1<<32, ^kind)
	}
	return out
}

// plainKinds encodes a column by each kind that its type has, in the document's words, and any other
// list by none.
func plainKinds(l []impl.Val) [][]byte {
	ty := fittingType(l)
	if ty == 0 {
		return nil
	}
	out := [][]byte{plainCodes(l...), plainRunCode(plainRuns(l)...), plainDictCode(l)}
	if ty == tyInt {
		out = append(out, plainFrameCode(l))
	}
	return out
}

// plainBest takes the first of the kinds whose encodings have the smallest of all lengths.
func plainBest(l []impl.Val) int {
	var lengths []int
	for _, code := range plainKinds(l) {
		lengths = append(lengths, len(code))
	}
	if len(lengths) == 0 {
		return -1
	}
	return slices.Index(lengths, slices.Min(lengths))
}

func kindCode(kind int, code []byte) []byte {
	return append([]byte{byte(kind)}, code...)
}

func plainColCode(l []impl.Val) []byte {
	best := plainBest(l)
	if best < 0 {
		return nil
	}
	return kindCode(best, plainKinds(l)[best])
}

// plainKindDecode decodes by one kind, whether or not it is the best one.
func plainKindDecode(kind byte, b []byte, ty, k int) ([]impl.Val, bool) {
	switch {
	case kind == ckPlain:
		return plainDecode(b, ty)
	case kind == ckRuns:
		return plainRunsDecode(b, ty)
	case kind == ckDict:
		return plainDictDecode(b, ty, k)
	case kind == ckFrame && ty == tyInt:
		return plainFrameDecode(b, k)
	}
	return nil, false
}

// plainColDecode decodes by the kind in front, and checks that the same bytes encode what it found.
func plainColDecode(b []byte, ty, k int) ([]impl.Val, bool) {
	if len(b) == 0 {
		return nil, false
	}
	l, ok := plainKindDecode(b[0], b[1:], ty, k)
	if !ok || len(l) != k || !bytes.Equal(plainColCode(l), b) {
		return nil, false
	}
	return l, true
}

func wantBest(t *testing.T, l []impl.Val, want int) {
	t.Helper()
	if got := impl.BestKind(l); got != want {
		t.Errorf("BestKind of %d values %v = %d, want %d", len(l), l[:min(len(l), 20)], got, want)
	}
}

func wantSaved(t *testing.T, l []impl.Val, want int) {
	t.Helper()
	if got := impl.Saved(l); got != want {
		t.Errorf("Saved of %d values %v = %d, want %d", len(l), l[:min(len(l), 20)], got, want)
	}
}

func wantColDecoded(t *testing.T, b []byte, ty int, want []impl.Val) {
	t.Helper()
	if l, ok := impl.DecCol(b, ty, len(want)); !slices.Equal(l, want) || !ok {
		t.Errorf("DecCol(%v, %d, %d) = %v, %v; want %v, true", b, ty, len(want), l, ok, want)
	}
}

func wantColNotDecoded(t *testing.T, b []byte, ty, k int) {
	t.Helper()
	if l, ok := impl.DecCol(b, ty, k); len(l) != 0 || ok {
		t.Errorf("DecCol(%v, %d, %d) = %v, %v; want none, false", b, ty, k, l, ok)
	}
}

// wantNoColCode checks that b is decoded for no number of values and no type.
func wantNoColCode(t *testing.T, b []byte) {
	t.Helper()
	for ty := range 4 {
		for k := -1; k <= mostVals+1; k++ {
			wantColNotDecoded(t, b, ty, k)
		}
	}
}

// wantPlainCol checks that b is decoded as k values exactly if it is their encoding.
func wantPlainCol(t *testing.T, b []byte, ty, k int) {
	t.Helper()
	want, ok := plainColDecode(b, ty, k)
	if !ok {
		wantColNotDecoded(t, b, ty, k)
		return
	}
	wantColDecoded(t, b, ty, want)
	wantBytes(t, "the encoding of what was decoded", impl.EncCol(want), b)
}

// wantNotColumn checks that a list has no encoding by any kind.
func wantNotColumn(t *testing.T, l []impl.Val) {
	t.Helper()
	wantBest(t, l, -1)
	wantSaved(t, l, 0)
	wantBytes(t, "EncCol of a list that is no column", impl.EncCol(l), nil)
	for _, kind := range append(wrongKinds(), ckPlain, ckRuns, ckDict, ckFrame) {
		wantBytes(t, "EncBy of a list that is no column", impl.EncBy(kind, l), nil)
	}
}

// wantShortest checks the promise by the program's own lengths.
func wantShortest(t *testing.T, l []impl.Val) {
	t.Helper()
	best := impl.BestKind(l)
	chosen := len(impl.EncBy(best, l))
	for kind := range 4 {
		n := len(impl.EncBy(kind, l))
		if n > 0 && (n < chosen || n == chosen && kind < best) {
			t.Errorf("%v have %d bytes by the kind %d, but the kind %d with %d was chosen", l, n, kind, best, chosen)
		}
	}
	if n := len(impl.EncCol(l)); n != chosen+1 {
		t.Errorf("EncCol of %v has %d bytes, want the kind and %d", l, n, chosen)
	}
}

// wantCol checks the encodings of a list by all kinds, and that only the best of them is decoded.
func wantCol(t *testing.T, l []impl.Val) {
	t.Helper()
	codes, best := plainKinds(l), plainBest(l)
	if best < 0 {
		wantNotColumn(t, l)
		return
	}
	wantBest(t, l, best)
	wantShortest(t, l)
	wantSaved(t, l, len(codes[ckPlain])-len(codes[best])-1)
	wantBytes(t, "EncCol of "+strconv.Itoa(len(l))+" values", impl.EncCol(l), kindCode(best, codes[best]))
	for kind, code := range codes {
		wantBytes(t, "EncBy of the kind "+strconv.Itoa(kind), impl.EncBy(kind, l), code)
		if kind == best {
			wantColDecoded(t, kindCode(kind, code), l[0].Ty, l)
		} else {
			wantColNotDecoded(t, kindCode(kind, code), l[0].Ty, len(l))
		}
	}
	if l[0].Ty == tyText {
		wantBytes(t, "EncBy of texts as a frame", impl.EncBy(ckFrame, l), nil)
	}
}

// tieSample is a column, the kinds with its shortest encodings, and the lengths of its encodings by all
// kinds.
type tieSample struct {
	kinds   []int
	lengths []int
	l       []impl.Val
}

// tieSamples returns, for each set of kinds that can be the shortest ones together, a column for which
// exactly these are.
func tieSamples() []tieSample {
	zeros := func(k int, more ...int) []impl.Val { return append(cycleOf(k, intOf(0)), intsOf(more...)...) }
	empties := func(k int, more ...string) []impl.Val { return append(cycleOf(k, textOf("")), textsOf(more...)...) }
	return []tieSample{
		{[]int{ckPlain}, []int{1, 3, 2, 2}, intsOf(7)},
		{[]int{ckRuns}, []int{17, 5, 6, 7}, append(cycleOf(8, intOf(4)), cycleOf(9, intOf(1))...)},
		{[]int{ckDict}, []int{11, 9, 8, 14}, intsOf(mostNum, mostNum, 0)},
		{[]int{ckFrame}, []int{8, 13, 10, 4}, intsOf(100, 101, 102, 103)},
		{[]int{ckPlain, ckRuns}, []int{23, 23, 24, 74}, zeros(11, 1, 2, 3, 4, 5, 6, 7, mostNum)},
		{[]int{ckPlain, ckDict}, []int{6, 7, 6, 8}, intsOf(5000, 5000, 100)},
		{[]int{ckPlain, ckFrame}, []int{4, 7, 6, 4}, intsOf(100, 109)},
		{[]int{ckRuns, ckDict}, []int{24, 8, 8, 26}, append(cycleOf(6, intOf(1000000)), cycleOf(3, intOf(5000))...)},
		{[]int{ckRuns, ckFrame}, []int{13, 7, 8, 7}, intsOf(8, 2, 2, 2, 2, 2, 2, 2, 3, 3, 3, 3, 3)},
		{[]int{ckDict, ckFrame}, []int{6, 5, 4, 4}, intsOf(1000000, 1000000)},
		{[]int{ckPlain, ckRuns, ckDict}, []int{15, 15, 15, 44}, zeros(7, 1, 2, 3, mostNum)},
		{[]int{ckPlain, ckRuns, ckFrame}, []int{19, 19, 20, 19}, zeros(11, 1, 2, 3, 4, 5, 6, -1, 63)},
		{[]int{ckPlain, ckDict, ckFrame}, []int{2, 3, 2, 2}, intsOf(21, 21)},
		{[]int{ckRuns, ckDict, ckFrame}, []int{9, 7, 7, 7}, intsOf(-6, 1, 1, 1, 1, -11, -11, -11, -11)},
		{[]int{ckPlain, ckRuns, ckDict, ckFrame}, []int{11, 11, 11, 11}, intsOf(3, -59, -59, -59, -45, -45, -45, 1, 1, 4, 4)},
		{[]int{ckPlain}, []int{1, 3, 2}, textsOf("")},
		{[]int{ckRuns}, []int{40, 13, 14}, slices.Concat(cycleOf(4, textOf("a")), cycleOf(4, textOf("ab")), cycleOf(5, textOf("abc")))},
		{[]int{ckDict}, []int{8, 6, 5}, textsOf("abc", "abc")},
		{[]int{ckPlain, ckRuns}, []int{27, 27, 28}, empties(11, "a", "b", "c", "d", "e", "f", "g", "h")},
		{[]int{ckPlain, ckDict}, []int{2, 3, 2}, textsOf("", "")},
		{[]int{ckRuns, ckDict}, []int{44, 12, 12}, append(textsOf("abc"), cycleOf(8, textOf("abcd"))...)},
		{[]int{ckPlain, ckRuns, ckDict}, []int{15, 15, 15}, empties(7, "a", "b", "c", "d")},
	}
}

// colSamples returns columns for all kinds, and for all ties between them.
func colSamples() [][]impl.Val {
	out := slices.Concat(runSamples(), dictSamples(), frameSamples())
	for _, c := range tieSamples() {
		out = append(out, c.l)
	}
	return out
}

// notColumns returns lists of no type.
func notColumns() [][]impl.Val {
	out := append(notFrames(), cycleOf(mostVals+1, textOf("")), cycleOf(mostVals+1, textOf("abc"), textOf("a")), differentVals(tyText, mostVals+1), differentVals(tyInt, mostVals+1), append(cycleOf(mostVals-1, textOf("a")), intOf(1)), textsOf("a", "A"), cycleOf(1<<16+1, textOf("a")))
	for _, v := range wrongVals() {
		out = append(out, []impl.Val{v}, []impl.Val{v, v}, []impl.Val{intOf(1), v}, []impl.Val{v, textOf("a")}, []impl.Val{textOf("a"), textOf("a"), v})
	}
	return slices.DeleteFunc(out, func(l []impl.Val) bool { return fittingType(l) != 0 })
}

func TestKinds(t *testing.T) {
	if impl.CkPlain != ckPlain || impl.CkRuns != ckRuns || impl.CkDict != ckDict || impl.CkFrame != ckFrame {
		t.Error(impl.CkPlain, impl.CkRuns, impl.CkDict, impl.CkFrame)
	}
}

func TestKindText(t *testing.T) {
	for kind, want := range []string{"plain", "runs", "dict", "frame"} {
		if got := impl.KindText(kind); got != want {
			t.Errorf("KindText(%d) = %q, want %q", kind, got, want)
		}
	}
	for _, kind := range wrongKinds() {
		if got := impl.KindText(kind); got != "" {
			t.Errorf("KindText(%d) = %q, want none", kind, got)
		}
	}
	for n := -300; n < 600; n++ {
		if got := impl.KindText(n); (got != "") != (n >= 0 && n < 4) {
			t.Errorf("KindText(%d) = %q", n, got)
		}
	}
}

func TestEncByTable(t *testing.T) {
	l := intsOf(4, 4, 4, 1)
	wantBytes(t, "plain integers", impl.EncBy(ckPlain, l), []byte{8, 8, 8, 2})
	wantBytes(t, "runs of integers", impl.EncBy(ckRuns, l), []byte{4, 6, 8, 2, 2})
	wantBytes(t, "a dictionary of integers", impl.EncBy(ckDict, l), []byte{4, 2, 8, 7})
	wantBytes(t, "a frame of integers", impl.EncBy(ckFrame, l), []byte{2, 2, 63})
	l = textsOf("b", "a", "a")
	wantBytes(t, "plain texts", impl.EncBy(ckPlain, l), []byte("\x01b\x01a\x01a"))
	wantBytes(t, "runs of texts", impl.EncBy(ckRuns, l), []byte("\x04\x02\x01b\x04\x01a"))
	wantBytes(t, "a dictionary of texts", impl.EncBy(ckDict, l), []byte("\x04\x01a\x01b\x01"))
	wantBytes(t, "a frame of texts", impl.EncBy(ckFrame, l), nil)
}

// TestEncByOtherKinds has lists that each of the four kinds encodes.
func TestEncByOtherKinds(t *testing.T) {
	for _, l := range append(colSamples(), nil, []impl.Val{}) {
		for _, kind := range wrongKinds() {
			wantBytes(t, "EncBy of the kind "+strconv.Itoa(kind), impl.EncBy(kind, l), nil)
		}
	}
}

// TestBestKindTies has each set of kinds as the shortest ones, of which the smallest is chosen.
func TestBestKindTies(t *testing.T) {
	seen := map[int]int{}
	for _, c := range tieSamples() {
		set := c.l[0].Ty
		for kind, code := range plainKinds(c.l) {
			if len(code) != c.lengths[kind] || len(impl.EncBy(kind, c.l)) != c.lengths[kind] {
				t.Errorf("%v by the kind %d: %d bytes, and %d by the program; want %d", c.l, kind, len(code), len(impl.EncBy(kind, c.l)), c.lengths[kind])
			}
			if (c.lengths[kind] == slices.Min(c.lengths)) != slices.Contains(c.kinds, kind) {
				t.Errorf("%v by the kind %d: wrong set %v", c.l, kind, c.kinds)
			}
		}
		for _, kind := range c.kinds {
			set |= 4 << kind
		}
		seen[set]++
		wantBest(t, c.l, c.kinds[0])
		wantCol(t, c.l)
		wantCol(t, backwards(c.l))
		for _, kind := range c.kinds[1:] {
			wantColNotDecoded(t, kindCode(kind, impl.EncBy(kind, c.l)), c.l[0].Ty, len(c.l))
		}
	}
	if len(seen) != 15+7 {
		t.Errorf("there are columns for %d sets of kinds, want 22: %v", len(seen), seen)
	}
}

func TestBestKindOneValue(t *testing.T) {
	for _, v := range goodVals() {
		wantBest(t, []impl.Val{v}, ckPlain)
		wantSaved(t, []impl.Val{v}, -1)
		wantCol(t, []impl.Val{v})
	}
}

// TestBestKindEqualValues has columns that are short by a dictionary for every number of values; a
// frame is equally short, and the plain encoding of few values is too.
func TestBestKindEqualValues(t *testing.T) {
	for _, v := range append(intsOf(0, -1, 63, 64, -64, -65, -70, 5000, 1000000, mostNum, -mostNum), textsOf(goodTexts()...)...) {
		size := len(plainCode(v))
		for k := 1; k <= mostVals; k++ {
			want := ckDict
			if k*size <= size+1 {
				want = ckPlain
			}
			wantBest(t, cycleOf(k, v), want)
			wantSaved(t, cycleOf(k, v), k*size-1-min(k*size, size+1))
			wantCol(t, cycleOf(k, v))
		}
		wantNotColumn(t, cycleOf(mostVals+1, v))
		wantNotColumn(t, cycleOf(mostVals+2, v))
	}
}

// TestBestKindMostValues has as many values as a column may have, with each kind as the best one.
func TestBestKindMostValues(t *testing.T) {
	for _, c := range []struct {
		l    []impl.Val
		want int
	}{
		{append(intsOf(mostNum), cycleOf(mostVals-1, descending(tyInt, mostVals-1)...)...), ckPlain}, {append(cycleOf(32, intOf(mostNum)), cycleOf(32, intOf(4))...), ckRuns},
		{cycleOf(mostVals, intOf(mostNum), intOf(-mostNum)), ckDict}, {cycleOf(mostVals, intOf(9), intOf(8)), ckFrame}, {cycleOf(mostVals, intOf(9)), ckDict}, {intsOf(listFrom(1000, mostVals)...), ckFrame},
		{differentVals(tyText, mostVals), ckPlain}, {append(cycleOf(32, textOf("a")), cycleOf(32, textOf("b"))...), ckRuns}, {cycleOf(mostVals, textOf("a"), textOf("b")), ckDict}, {cycleOf(mostVals, textOf("")), ckDict},
	} {
		wantBest(t, c.l, c.want)
		wantCol(t, c.l)
		wantCol(t, c.l[:mostVals-1])
		wantNotColumn(t, slices.Concat(c.l, c.l[:1]))
	}
}

// TestBestKindTexts has texts of all lengths, for which the frame would have no bytes at all.
func TestBestKindTexts(t *testing.T) {
	for _, s := range goodTexts() {
		for _, other := range goodTexts() {
			for _, k := range []int{1, 2, 3, 9, 17, mostVals} {
				for at := 0; at <= k; at += max(1, k/3) {
					l := append(cycleOf(at, textOf(s)), cycleOf(k-at, textOf(other))...)
					if best := impl.BestKind(l); best < ckPlain || best > ckDict {
						t.Errorf("BestKind of the texts %v = %d", l, best)
					}
					wantBest(t, l, plainBest(l))
				}
			}
		}
	}
	wantCol(t, textsOf("10", "11", "12", "13"))
	wantCol(t, textsOf("a", "a", "a", "a"))
	wantBest(t, textsOf("a", "a", "a", "a"), ckDict)
}

func TestNotColumns(t *testing.T) {
	for _, l := range notColumns() {
		wantNotColumn(t, l)
	}
	wantNotColumn(t, nil)
	wantNotColumn(t, []impl.Val{})
	wantNotColumn(t, intsOf(1, 2)[:0])
}

func TestColAllShort(t *testing.T) {
	for _, l := range slices.Concat(
		listsOf(5, intOf(10), intOf(12), intOf(100), intOf(-1)),
		listsOf(4, intOf(0), intOf(mostNum), intOf(-mostNum), intOf(5000), textOf("")),
		listsOf(4, intOf(3), textOf("a"), impl.Val{}, impl.Val{Ty: tyInt, S: "a"}, intOf(mostNum+1)),
		listsOf(5, textOf("a"), textOf(""), textOf("abc")),
		listsOf(9, intOf(1), intOf(0)), listsOf(9, textOf(""), textOf("b")),
	) {
		wantCol(t, l)
	}
}

// TestColSamples has every number of values in columns for which the kinds take turns.
func TestColSamples(t *testing.T) {
	for _, l := range colSamples() {
		wantCol(t, l)
	}
	for _, ty := range bothTypes() {
		for k := 1; k <= mostVals+1; k++ {
			wantCol(t, someVals(ty, k))
			wantCol(t, descending(ty, k))
			for split := range k {
				wantCol(t, append(cycleOf(split, valOf(ty, 0)), cycleOf(k-split, valOf(ty, 1))...))
			}
			for distinct := 2; distinct < k; distinct += 3 {
				wantCol(t, cycleOf(k, differentVals(ty, distinct)...))
			}
		}
	}
}

// TestColAllKinds checks that the samples have every kind as the best one, for each type.
func TestColAllKinds(t *testing.T) {
	seen := map[[2]int]int{}
	for _, l := range colSamples() {
		seen[[2]int{l[0].Ty, int(impl.EncCol(l)[0])}]++
	}
	for _, c := range [][2]int{{tyInt, ckPlain}, {tyInt, ckRuns}, {tyInt, ckDict}, {tyInt, ckFrame}, {tyText, ckPlain}, {tyText, ckRuns}, {tyText, ckDict}} {
		if seen[c] < 2 {
			t.Errorf("of the type %d, %d samples have the kind %d", c[0], seen[c], c[1])
		}
	}
	if len(seen) != 7 {
		t.Errorf("the samples have the types and kinds %v", seen)
	}
}

func TestEncColBytes(t *testing.T) {
	for _, c := range []struct {
		l    []impl.Val
		want string
	}{
		{intsOf(7), "\x00\x0e"}, {intsOf(0), "\x00\x00"}, {textsOf(""), "\x00\x00"}, {textsOf("c"), "\x00\x01c"}, {intsOf(mostNum), "\x00\x80\xa8\xd6\xb9\x07"}, {intsOf(21, 21), "\x00\x2a\x2a"},
		{append(cycleOf(8, intOf(4)), cycleOf(9, intOf(1))...), "\x01\x04\x10\x08\x12\x02"}, {append(cycleOf(9, textOf("a")), cycleOf(8, textOf("b"))...), "\x01\x04\x12\x01a\x10\x01b"},
		{intsOf(5, 5, 5), "\x02\x02\x0a"}, {textsOf("q", "q"), "\x02\x02\x01q"}, {textsOf("red", "blue", "red", "blue", "red", "blue"), "\x02\x04\x04blue\x03red\x15"}, {cycleOf(mostVals, textOf("")), "\x02\x02\x00"},
		{intsOf(100, 101, 102, 103), "\x03\xc8\x01\x02\xe4"}, {intsOf(4, 4, 4, 1), "\x03\x02\x02\x3f"}, {cycleOf(9, intOf(0), intOf(1)), "\x03\x00\x01\xaa\x00"},
	} {
		wantBytes(t, "EncCol", impl.EncCol(c.l), []byte(c.want))
		wantColDecoded(t, []byte(c.want), c.l[0].Ty, c.l)
		wantCol(t, c.l)
	}
}

func TestSavedTable(t *testing.T) {
	for _, c := range []struct {
		l    []impl.Val
		want int
	}{
		{nil, 0}, {[]impl.Val{}, 0}, {[]impl.Val{intOf(1), textOf("a")}, 0}, {[]impl.Val{{}}, 0}, {intsOf(mostNum + 1), 0}, {cycleOf(mostVals+1, intOf(1)), 0}, {cycleOf(mostVals+1, textOf("abc")), 0},
		{intsOf(7), -1}, {intsOf(mostNum), -1}, {textsOf("seven7"), -1}, {textsOf("a", "b"), -1}, {intsOf(21, 21), -1}, {intsOf(5, 5, 5), 0}, {intsOf(4, 4, 4, 1), 0}, {textsOf("", "", ""), 0},
		{textsOf("red", "blue", "red", "blue", "red", "blue"), 15}, {intsOf(100, 101, 102, 103), 3}, {cycleOf(mostVals, intOf(5)), 61}, {cycleOf(mostVals, textOf("seven7")), 64*7 - 9}, {cycleOf(mostVals, intOf(mostNum)), 64*5 - 7},
	} {
		wantSaved(t, c.l, c.want)
	}
}

func TestDecColNoBytes(t *testing.T) {
	wantNoColCode(t, nil)
	wantNoColCode(t, []byte{})
	wantNoColCode(t, []byte{0, 0, 0}[:0])
	for _, ty := range append(bothTypes(), wrongTypes()...) {
		for _, k := range []int{math.MinInt, math.MaxInt, 1 << 32, 1<<32 + 1} {
			wantColNotDecoded(t, nil, ty, k)
		}
	}
}

// TestDecColFirstByteAlone has no encoding behind the kind.
func TestDecColFirstByteAlone(t *testing.T) {
	for c := range 256 {
		wantNoColCode(t, []byte{byte(c)})
		wantNoColCode(t, []byte{byte(c), 14, 14}[:1])
	}
}

// TestDecColFirstByte writes each byte before the encodings by all kinds.
func TestDecColFirstByte(t *testing.T) {
	for _, l := range colSamples() {
		for _, code := range plainKinds(l) {
			for first := range 256 {
				b := kindCode(first, code)
				if first > ckFrame {
					wantColNotDecoded(t, b, l[0].Ty, len(l))
				} else {
					wantPlainCol(t, b, l[0].Ty, len(l))
				}
			}
		}
	}
	for first := 4; first < 256; first++ {
		wantNoColCode(t, []byte{byte(first), 14})
		wantNoColCode(t, []byte{byte(first), 2, 10})
		wantNoColCode(t, []byte{byte(first), 200, 1, 2, 228})
	}
}

func TestDecColTypes(t *testing.T) {
	for _, l := range colSamples() {
		b, k := impl.EncCol(l), len(l)
		for _, ty := range wrongTypes() {
			wantColNotDecoded(t, b, ty, k)
		}
		wantPlainCol(t, b, 3-l[0].Ty, k)
	}
	wantColNotDecoded(t, impl.EncCol(intsOf(7)), tyText, 1)
	wantColNotDecoded(t, impl.EncCol(textsOf("c")), tyInt, 1)
	wantColNotDecoded(t, impl.EncCol(textsOf("q", "q")), tyInt, 2)
	wantColNotDecoded(t, impl.EncCol(intsOf(5, 5, 5)), tyText, 3)
	wantColDecoded(t, impl.EncCol(intsOf(0)), tyText, textsOf(""))
	wantColDecoded(t, impl.EncCol(textsOf("", "", "")), tyInt, intsOf(0, 0, 0))
}

// TestDecColFrameOfTexts decodes frames, of integers for which they are best, as texts.
func TestDecColFrameOfTexts(t *testing.T) {
	for _, l := range frameSamples() {
		wantColNotDecoded(t, kindCode(ckFrame, plainFrameCode(l)), tyText, len(l))
		wantColNotDecoded(t, kindCode(ckFrame, plainCodes(l...)), tyText, len(l))
	}
	b := []byte{ckFrame, 200, 1, 2, 228}
	wantColDecoded(t, b, tyInt, intsOf(100, 101, 102, 103))
	for k := -1; k <= mostVals+1; k++ {
		wantColNotDecoded(t, b, tyText, k)
		wantColNotDecoded(t, []byte{ckFrame}, tyText, k)
		wantColNotDecoded(t, []byte{ckFrame, 0, 0}, tyText, k)
		wantColNotDecoded(t, []byte("\x03\x01a\x00"), tyText, k)
	}
}

func TestDecColOtherCounts(t *testing.T) {
	for _, l := range colSamples() {
		b, ty, k := impl.EncCol(l), l[0].Ty, len(l)
		for other := -2; other <= 2*mostVals; other++ {
			// The padding may hold a few values more, or fewer, for which the kind is still the best one.
			wantPlainCol(t, b, ty, other)
		}
		for _, other := range []int{-k, 0, -1, mostVals + 1, k + 256, k + 1<<32, k - 1<<32, math.MaxInt, math.MinInt, math.MinInt + k} {
			wantColNotDecoded(t, b, ty, other)
		}
	}
	for _, k := range []int{0, 1, 2, 3, 5, 8} {
		wantColNotDecoded(t, []byte{ckFrame, 200, 1, 2, 228}, tyInt, k)
	}
}

// TestDecColEqualValues has bytes that say nothing about the number of values, but are the best
// encoding of some numbers only.
func TestDecColEqualValues(t *testing.T) {
	for _, v := range []impl.Val{intOf(0), intOf(5), intOf(-70), intOf(mostNum), textOf(""), textOf("q"), textOf("seven7")} {
		b := append([]byte{ckDict, 2}, plainCode(v)...)
		few := 1
		if len(plainCode(v)) == 1 {
			few = 2
		}
		for k := -1; k <= mostVals+2; k++ {
			if k > few && k <= mostVals {
				wantColDecoded(t, b, v.Ty, cycleOf(k, v))
			} else {
				wantColNotDecoded(t, b, v.Ty, k)
			}
			wantColNotDecoded(t, slices.Concat([]byte{ckFrame}, plainCode(v), []byte{0}), v.Ty, k)
		}
	}
}

// TestDecColTooMany has the right number of values, which is too large.
func TestDecColTooMany(t *testing.T) {
	for _, k := range []int{mostVals + 1, mostVals + 2, 100, 256, 257} {
		for _, v := range []impl.Val{intOf(5), intOf(mostNum), textOf(""), textOf("abc")} {
			l := cycleOf(k, v)
			for kind, code := range [][]byte{plainCodes(l...), plainRunCode(plainRuns(l)...), plainDictCode(l), frameCode(v.N, 0, make([]int, k)...)} {
				wantColNotDecoded(t, kindCode(kind, code), v.Ty, k)
			}
		}
		l := intsOf(listFrom(1000, k)...)
		wantColNotDecoded(t, kindCode(ckFrame, frameCode(1000, plainWidth([]int{k - 1}), listFrom(0, k)...)), tyInt, k)
		wantColNotDecoded(t, kindCode(ckPlain, plainCodes(l...)), tyInt, k)
	}
}

func TestDecColCutOff(t *testing.T) {
	for _, l := range colSamples() {
		b, ty, k := impl.EncCol(l), l[0].Ty, len(l)
		for end := range len(b) {
			wantColNotDecoded(t, b[:end], ty, k)
			wantColNotDecoded(t, slices.Clone(b[:end]), ty, k)
		}
		wantPlainCol(t, b[1:], ty, k)
	}
}

func TestDecColLeftOver(t *testing.T) {
	for _, l := range colSamples() {
		b, ty, k := impl.EncCol(l), l[0].Ty, len(l)
		for c := range 256 {
			wantColNotDecoded(t, append(slices.Clone(b), byte(c)), ty, k)
		}
		wantColNotDecoded(t, slices.Concat(b, b), ty, k)
		wantPlainCol(t, slices.Concat(b, b[1:]), ty, 2*k)
		wantPlainCol(t, kindCode(int(b[0]), b), ty, k)
	}
}

// TestDecColOtherKinds has correct encodings of the same values, longer ones and equally short ones.
func TestDecColOtherKinds(t *testing.T) {
	longer, equal := 0, 0
	for _, l := range colSamples() {
		best := impl.BestKind(l)
		for kind := range 4 {
			code := impl.EncBy(kind, l)
			if kind == best || len(code) == 0 {
				continue
			}
			wantColNotDecoded(t, kindCode(kind, code), l[0].Ty, len(l))
			if len(code) == len(impl.EncBy(best, l)) {
				equal++
			} else {
				longer++
			}
		}
	}
	if longer < 100 || equal < 20 {
		t.Errorf("%d encodings are longer and %d equally short", longer, equal)
	}
	wantColNotDecoded(t, []byte{ckRuns, 2, 2, 14}, tyInt, 1)
	wantColNotDecoded(t, []byte{ckDict, 2, 14}, tyInt, 1)
	wantColNotDecoded(t, []byte{ckFrame, 14, 0}, tyInt, 1)
	wantColNotDecoded(t, []byte{ckDict, 2, 42}, tyInt, 2)
	wantColNotDecoded(t, []byte{ckFrame, 42, 0}, tyInt, 2)
	wantColNotDecoded(t, []byte{ckDict, 2, 0}, tyText, 2)
	wantColDecoded(t, []byte{ckPlain, 0, 0}, tyText, textsOf("", ""))
	wantColDecoded(t, []byte{ckDict, 2, 0}, tyText, textsOf("", "", ""))
}

func TestDecColWithinCapacity(t *testing.T) {
	whole := []byte{ckFrame, 200, 1, 2, 228}
	for end := range len(whole) {
		for k := -1; k <= mostVals+1; k++ {
			wantPlainCol(t, whole[:end], tyInt, k)
			wantColNotDecoded(t, whole[:end], tyInt, 4)
		}
	}
	wantColDecoded(t, append(slices.Clone(whole), 0, 0)[:len(whole)], tyInt, intsOf(100, 101, 102, 103))
	wantColDecoded(t, []byte{ckPlain, 14, 14}[:2], tyInt, intsOf(7))
	l := append(cycleOf(mostVals, intOf(5)), textOf("a"))
	wantCol(t, l[:mostVals])
	wantCol(t, l[:1])
	wantCol(t, l[:0])
	wantCol(t, l[mostVals:])
	wantNotColumn(t, l)
	wantNotColumn(t, l[1:])
}

func TestColDecodedAreEncodings(t *testing.T) {
	counts := []int{0, 1, 2, 3, 4, 8, mostVals, mostVals + 1}
	want := func(counts []int, b ...byte) {
		for _, k := range counts {
			wantPlainCol(t, b, tyInt, k)
			wantPlainCol(t, b, tyText, k)
		}
	}
	for first := range 256 {
		for x := range 256 {
			want(counts, byte(first), byte(x))
		}
	}
	for first := range byte(5) {
		for x := range 256 {
			for y := range 256 {
				want(counts[1:4], first, byte(x), byte(y))
				want(counts[2:5], first, 2, byte(x), byte(y))
				want(counts[4:6], first, 200, 1, byte(x), byte(y))
			}
		}
	}
	for _, b := range slices.Concat(listsOf[byte](6, 0, 1, 2, 3, 4), listsOf[byte](4, 0, 1, 2, 3, 'a', 14, 128, 255)) {
		want(counts, b...)
	}
}

func TestNearColCodes(t *testing.T) {
	for _, l := range [][]impl.Val{
		intsOf(7), intsOf(mostNum), intsOf(21, 21), intsOf(5, 5, 5), intsOf(4, 4, 4, 1), intsOf(100, 101, 102, 103), intsOf(mostNum, mostNum, 0), append(cycleOf(8, intOf(4)), cycleOf(9, intOf(1))...),
		cycleOf(mostVals, intOf(5)), cycleOf(mostVals, intOf(5), intOf(4)), textsOf(""), textsOf("q", "q"), textsOf("ab", "", "", "c"), textsOf("red", "blue", "red", "blue", "red", "blue"), append(cycleOf(9, textOf("a")), cycleOf(8, textOf("b"))...),
	} {
		for _, near := range nearTexts(string(impl.EncCol(l))) {
			for _, k := range []int{1, len(l) - 1, len(l), len(l) + 1} {
				wantPlainCol(t, []byte(near), l[0].Ty, k)
			}
		}
	}
}

// TestColMemory overwrites arguments and results of all functions that take values.
func TestColMemory(t *testing.T) {
	mark := impl.Val{Ty: tyInt, N: -mostNum}
	for _, values := range append(colSamples(), notColumns()...) {
		l, check := spare(t, mark, values...)
		wantBest(t, l, plainBest(values))
		wantSaved(t, l, impl.Saved(values))
		first, last := impl.EncCol(l), impl.EncCol(l)
		var codes [][]byte
		for kind := -1; kind <= 4; kind++ {
			scribble(impl.EncBy(kind, l), 99)
			codes = append(codes, impl.EncBy(kind, l))
		}
		scribble(first, 99)
		check("the list of EncBy, BestKind, EncCol and Saved")
		scribble(l, textOf("gone"))
		wantBytes(t, "EncCol, its argument and another result overwritten", last, plainColCode(values))
		for i, code := range codes {
			wantBytes(t, "EncBy, its argument and another result overwritten", code, impl.EncBy(i-1, values))
		}
	}
}

func TestDecColMemory(t *testing.T) {
	codes := append(argumentBytes(), []byte{0}, []byte{3, 20, 2, 25}, []byte{4, 14}, []byte{2, 2, 14})
	for _, l := range colSamples() {
		codes = append(codes, impl.EncCol(l), append(impl.EncCol(l), 0))
		b := impl.EncCol(l)
		first, _ := impl.DecCol(b, l[0].Ty, len(l))
		last, _ := impl.DecCol(b, l[0].Ty, len(l))
		scribble(first, textOf("gone"))
		scribble(b, 'x')
		if !slices.Equal(last, l) {
			t.Errorf("DecCol, its bytes and another result overwritten: %v, want %v", last, l)
		}
	}
	for _, code := range codes {
		b, check := spare(t, 2, code...)
		for ty := range 4 {
			for k := -1; k <= mostVals+1; k += 3 {
				l, _ := impl.DecCol(b, ty, k)
				scribble(l, textOf("gone"))
			}
		}
		check("DecCol")
	}
}

func TestColStaysTheSame(t *testing.T) {
	want := intsOf(100, 101, 102, 103)
	for range 3 {
		b := impl.EncCol(want)
		wantBytes(t, "EncCol again", b, []byte{ckFrame, 200, 1, 2, 228})
		wantColDecoded(t, b, tyInt, want)
		wantColNotDecoded(t, b, tyText, 4)
		failed, _ := impl.DecCol(b, tyInt, 5)
		scribble(failed, intOf(9))
		for kind := -1; kind <= 4; kind++ {
			scribble(impl.EncBy(kind, nil), 99)
			wantBytes(t, "EncBy of nothing", impl.EncBy(kind, nil), nil)
		}
		scribble(impl.EncCol(nil), 99)
		wantBytes(t, "EncCol of nothing", impl.EncCol(nil), nil)
		wantBest(t, nil, -1)
		wantBest(t, want, ckFrame)
		wantSaved(t, want, 3)
		if s := impl.KindText(impl.BestKind(want)); s != "frame" {
			t.Errorf("KindText of a frame = %q", s)
		}
		scribble(b, 0)
	}
}
