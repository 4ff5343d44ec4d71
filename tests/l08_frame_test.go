package tests

import (
	"bytes"
	"math"
	"slices"
	"strconv"
	"strings"
	"testing"

	"loop.example/g00496/impl"
)

// plainBase sorts the integers of a list and takes the first one, apart from the program.
func plainBase(l []impl.Val) int {
	sorted := []int{0}
	for i, v := range l {
		if i == 0 {
			sorted = nil
		}
		sorted = append(sorted, v.N)
	}
	slices.Sort(sorted)
	return sorted[0]
}

// plainOffsets returns the offsets of a list whose type is integers, and none of any other.
func plainOffsets(l []impl.Val) []int {
	var out []int
	if fittingType(l) == tyInt {
		for _, v := range l {
			out = append(out, v.N-plainBase(l))
		}
	}
	return out
}

// plainWidth counts the binary digits of the greatest element; 0 has none.
func plainWidth(l []int) int {
	return len(strings.TrimLeft(strconv.FormatInt(int64(slices.Max(l)), 2), "0"))
}

// frameCode encodes any base with any offsets that fit any width, in the document's words.
func frameCode(base, w int, offsets ...int) []byte {
	return slices.Concat(plainNum(base), []byte{byte(w)}, plainPack(offsets, w))
}

func plainFrameCode(l []impl.Val) []byte {
	offsets := plainOffsets(l)
	return frameCode(plainBase(l), plainWidth(offsets), offsets...)
}

// digitsAt reads k integers of w binary digits each.
func digitsAt(digits string, w, k int) []int {
	var out []int
	for i := range k {
		n := 0
		for bit := range w {
			n += int(digits[i*w+bit]-'0') << bit
		}
		out = append(out, n)
	}
	return out
}

// plainFrameDecode reads a frame digit by digit, and checks every rule that an encoding follows.
func plainFrameDecode(b []byte, k int) ([]impl.Val, bool) {
	base, next, ok := plainGet(b, tyInt)
	if !ok || next == len(b) || k < 1 || k > mostVals {
		return nil, false
	}
	w, digits := int(b[next]), plainBits(b[next+1:])
	if w > mostWidth || len(digits) < k*w || len(digits) >= k*w+8 || strings.Contains(digits[k*w:], "1") {
		return nil, false
	}
	offsets := digitsAt(digits, w, k)
	if slices.Min(offsets) != 0 || plainWidth(offsets) != w || slices.Max(offsets) > mostNum-base.N {
		return nil, false
	}
	return raisedPlainly(base.N, offsets...), true
}

func raisedPlainly(base int, offsets ...int) []impl.Val {
	var out []impl.Val
	for _, x := range offsets {
		out = append(out, intOf(base+x))
	}
	return out
}

func wantBase(t *testing.T, l []impl.Val, want int) {
	t.Helper()
	if got := impl.Base(l); got != want {
		t.Errorf("Base of %d values %v = %d, want %d", len(l), l[:min(len(l), 9)], got, want)
	}
}

// wantOffsets checks the offsets of a list, and the greatest of them.
func wantOffsets(t *testing.T, l []impl.Val, want ...int) {
	t.Helper()
	if got := impl.Offsets(l); !slices.Equal(got, want) {
		t.Errorf("Offsets of %d values %v = %v, want %v", len(l), l[:min(len(l), 9)], got[:min(len(got), 9)], want[:min(len(want), 9)])
	}
	if got := impl.Reach(l); got != slices.Max(append([]int{0}, want...)) {
		t.Errorf("Reach of %d values %v with the offsets %v = %d", len(l), l[:min(len(l), 9)], want[:min(len(want), 9)], got)
	}
}

func wantRaised(t *testing.T, base int, l []int, want ...impl.Val) {
	t.Helper()
	if got, ok := impl.Raised(base, l); !slices.Equal(got, want) || !ok {
		t.Errorf("Raised of %d and %d integers %v = %v, %v; want %v, true", base, len(l), l[:min(len(l), 9)], got[:min(len(got), 9)], ok, want[:min(len(want), 9)])
	}
}

func wantNotRaised(t *testing.T, base int, l ...int) {
	t.Helper()
	if got, ok := impl.Raised(base, l); len(got) != 0 || ok {
		t.Errorf("Raised of %d and %d integers %v = %v, %v; want none, false", base, len(l), l[:min(len(l), 9)], got[:min(len(got), 9)], ok)
	}
}

func wantFrameDecoded(t *testing.T, b []byte, want []impl.Val) {
	t.Helper()
	if l, ok := impl.DecFrame(b, len(want)); !slices.Equal(l, want) || !ok {
		t.Errorf("DecFrame(%v, %d) = %v, %v; want %v, true", b, len(want), l, ok, want)
	}
}

func wantFrameNotDecoded(t *testing.T, b []byte, k int) {
	t.Helper()
	if l, ok := impl.DecFrame(b, k); len(l) != 0 || ok {
		t.Errorf("DecFrame(%v, %d) = %v, %v; want none, false", b, k, l, ok)
	}
}

// wantNoFrameCode checks that b is decoded for no number of values.
func wantNoFrameCode(t *testing.T, b []byte) {
	t.Helper()
	for k := -1; k <= mostVals+1; k++ {
		wantFrameNotDecoded(t, b, k)
	}
}

// wantPlainFrame checks that b is decoded as k integers exactly if it is their encoding.
func wantPlainFrame(t *testing.T, b []byte, k int) {
	t.Helper()
	want, ok := plainFrameDecode(b, k)
	if !ok {
		wantFrameNotDecoded(t, b, k)
		return
	}
	wantFrameDecoded(t, b, want)
	wantBytes(t, "the encoding of what was decoded", impl.EncFrame(want), b)
}

// wantFrame checks everything about the frame of a list, and that its parts lead back to the list.
func wantFrame(t *testing.T, l []impl.Val) {
	t.Helper()
	base, offsets := plainBase(l), plainOffsets(l)
	wantBase(t, l, base)
	wantOffsets(t, l, offsets...)
	b := impl.EncFrame(l)
	if fittingType(l) != tyInt {
		wantBytes(t, "EncFrame of "+strconv.Itoa(len(l))+" values that are not all integers", b, nil)
		return
	}
	wantRaised(t, base, offsets, l...)
	wantBytes(t, "EncFrame of "+strconv.Itoa(len(l))+" values", b, plainFrameCode(l))
	wantFrameDecoded(t, b, l)
}

// offsetsOf returns k offsets, the least of them 0 and, for more than one, the greatest with w bits.
func offsetsOf(k, w int) []int {
	l := packable(k, w)
	for i := range l {
		l[i] = min(l[i], 2*mostNum)
	}
	if k > 1 {
		l[1] = l[0]
	}
	l[k/2] = 0
	return l
}

// frameSamples returns columns with widths of every kind, low and high in the range.
func frameSamples() [][]impl.Val {
	var out [][]impl.Val
	for _, k := range []int{1, 2, 3, 5, 8, 20, 63, mostVals} {
		for _, w := range []int{0, 1, 2, 3, 7, 8, 9, 16, 30, 31} {
			offsets := offsetsOf(k, w)
			out = append(out, raisedPlainly(-mostNum, offsets...), raisedPlainly(mostNum-slices.Max(offsets), offsets...))
			if w < 30 {
				out = append(out, raisedPlainly(-3, offsets...))
			}
		}
		out = append(out, someVals(tyInt, k), differentVals(tyInt, k), descending(tyInt, k))
	}
	return out
}

// notFrames returns lists whose type is not that of integers.
func notFrames() [][]impl.Val {
	out := [][]impl.Val{
		nil, {}, {{}}, {{}, {}}, {{Ty: 3, N: 4}}, textsOf(""), textsOf("a"), textsOf("10", "12", "11"), someVals(tyText, mostVals),
		{intOf(1), textOf("a")}, {textOf(""), intOf(0)}, {intOf(1), intOf(1), textOf("")}, {intOf(mostNum + 1)}, {intOf(1), intOf(-mostNum - 1)}, {intOf(-mostNum - 1), intOf(mostNum + 1)},
		{textOf("seven77")}, {{Ty: tyInt, S: "a"}}, {intOf(3), {Ty: tyInt, N: 5, S: "a"}}, {{Ty: tyText, N: 1}}, {intOf(4), {}}, {{N: 4}, intOf(4)},
		cycleOf(mostVals+1, intOf(1)), cycleOf(mostVals+1, intOf(0), intOf(9)), cycleOf(mostVals, impl.Val{}), append(cycleOf(mostVals-1, intOf(1)), textOf("a")), cycleOf(1<<16+1, intOf(7), intOf(-7)),
	}
	for _, ty := range wrongTypes() {
		out = append(out, []impl.Val{{Ty: ty, N: 4}}, []impl.Val{intOf(4), {Ty: ty, N: 5}}, []impl.Val{{Ty: ty, N: 3}, intOf(4)})
	}
	return out
}

func TestBaseTable(t *testing.T) {
	for _, c := range []struct {
		l    []impl.Val
		want int
	}{
		{nil, 0}, {[]impl.Val{}, 0}, {intsOf(10, 12, 11), 10}, {intsOf(12, 11, 10), 10}, {intsOf(12, 10, 11), 10}, {intsOf(0), 0}, {intsOf(7), 7}, {intsOf(-7), -7}, {intsOf(5, 5, 5), 5}, {intsOf(-5, -5), -5},
		{intsOf(1, 0), 0}, {intsOf(0, -1), -1}, {intsOf(-1, -2, 3), -2}, {intsOf(mostNum), mostNum}, {intsOf(-mostNum), -mostNum}, {intsOf(mostNum, mostNum), mostNum},
		{intsOf(-mostNum, mostNum), -mostNum}, {intsOf(mostNum, -mostNum), -mostNum}, {intsOf(mostNum, mostNum-1), mostNum - 1}, {intsOf(1-mostNum, -mostNum), -mostNum},
		{textsOf("a"), 0}, {textsOf("5", "6"), 0}, {append(intsOf(4), textsOf("a")...), 0}, {append(intsOf(-4), textsOf("a")...), -4}, {append(textsOf("a"), intsOf(-4, 4)...), -4},
		{[]impl.Val{{}}, 0}, {[]impl.Val{{N: 3}, {N: 2}}, 2}, {[]impl.Val{{Ty: tyText, N: 8, S: "a"}, {Ty: tyText, N: 9}}, 8}, {[]impl.Val{{Ty: 3, N: -8, S: "A"}, intOf(-7)}, -8},
		{intsOf(mostNum+2, mostNum+1), mostNum + 1}, {intsOf(-mostNum-1, -mostNum-2), -mostNum - 2}, {intsOf(math.MaxInt), math.MaxInt}, {intsOf(math.MinInt), math.MinInt},
		{intsOf(math.MaxInt, math.MinInt), math.MinInt}, {intsOf(math.MinInt, math.MaxInt), math.MinInt}, {intsOf(math.MaxInt, math.MaxInt-1), math.MaxInt - 1}, {intsOf(1<<32, 3), 3}, {intsOf(1<<32+1, 1<<32), 1 << 32},
	} {
		wantBase(t, c.l, c.want)
	}
}

// TestBaseAtEveryPlace puts the smallest integer in each place of lists of any length.
func TestBaseAtEveryPlace(t *testing.T) {
	for _, k := range []int{1, 2, 3, mostVals - 1, mostVals, mostVals + 1, mostVals + 2, 257} {
		for at := range k {
			for _, c := range [][2]int{{9, 8}, {0, -1}, {-1, -2}, {mostNum, -mostNum}, {mostNum, mostNum - 1}, {1, 0}} {
				l := cycleOf(k, intOf(c[0]))
				l[at] = intOf(c[1])
				wantFrame(t, l)
				wantBase(t, l, c[1])
				l[at].N = c[0] + 1
				wantBase(t, l, plainBase(l))
			}
		}
	}
	wantBase(t, append(cycleOf(1<<16, intOf(3)), intOf(2)), 2)
	wantBase(t, append(intsOf(2), cycleOf(1<<16, intOf(3))...), 2)
}

func TestOffsetsTable(t *testing.T) {
	for _, c := range []struct{ l, want []int }{
		{[]int{10, 12, 11}, []int{0, 2, 1}}, {[]int{7}, []int{0}}, {[]int{-7}, []int{0}}, {[]int{0}, []int{0}}, {[]int{5, 5, 5}, []int{0, 0, 0}}, {[]int{-1, 1}, []int{0, 2}}, {[]int{1, -1}, []int{2, 0}},
		{[]int{-10, -12, -11}, []int{2, 0, 1}}, {[]int{3, 0, 0, 7}, []int{3, 0, 0, 7}}, {[]int{mostNum}, []int{0}}, {[]int{-mostNum}, []int{0}}, {[]int{mostNum, mostNum - 1}, []int{1, 0}},
		{[]int{-mostNum, mostNum}, []int{0, 2 * mostNum}}, {[]int{mostNum, -mostNum}, []int{2 * mostNum, 0}}, {[]int{mostNum, 0, -mostNum}, []int{2 * mostNum, mostNum, 0}},
		{[]int{1 - mostNum, mostNum}, []int{0, 2*mostNum - 1}}, {[]int{-mostNum, mostNum - 1}, []int{0, 2*mostNum - 1}}, {[]int{0, mostNum}, []int{0, mostNum}}, {[]int{-mostNum, 0}, []int{0, mostNum}},
	} {
		wantOffsets(t, intsOf(c.l...), c.want...)
		wantFrame(t, intsOf(c.l...))
	}
	wantOffsets(t, cycleOf(mostVals, intOf(4)), make([]int, mostVals)...)
	wantOffsets(t, cycleOf(mostVals, intOf(-mostNum), intOf(mostNum)), cycleOfInts(mostVals, 0, 2*mostNum)...)
}

func TestReachTable(t *testing.T) {
	for _, c := range []struct {
		l    []impl.Val
		want int
	}{
		{nil, 0}, {[]impl.Val{}, 0}, {intsOf(10, 12, 11), 2}, {intsOf(12, 10), 2}, {intsOf(7), 0}, {intsOf(-7), 0}, {intsOf(mostNum), 0}, {intsOf(-mostNum), 0}, {intsOf(5, 5, 5), 0}, {intsOf(-5, -5), 0},
		{intsOf(-1, 1), 2}, {intsOf(-4, -1), 3}, {intsOf(-mostNum, mostNum), 2 * mostNum}, {intsOf(mostNum, -mostNum), 2 * mostNum}, {intsOf(0, mostNum), mostNum},
		{textsOf("a", "b"), 0}, {append(intsOf(1, 9), textOf("a")), 0}, {intsOf(0, mostNum+1), 0}, {intsOf(-mostNum-1, 0), 0}, {intsOf(math.MinInt, math.MaxInt), 0}, {[]impl.Val{{N: 1}, {N: 9}}, 0},
		{cycleOf(mostVals, intOf(1), intOf(9)), 8}, {cycleOf(mostVals+1, intOf(1), intOf(9)), 0}, {append(cycleOf(mostVals-1, intOf(1)), intOf(9)), 8}, {append(intsOf(9), cycleOf(mostVals-1, intOf(1))...), 8},
	} {
		if got := impl.Reach(c.l); got != c.want {
			t.Errorf("Reach of %d values %v = %d, want %d", len(c.l), c.l[:min(len(c.l), 9)], got, c.want)
		}
	}
}

func TestNotFrames(t *testing.T) {
	for _, l := range notFrames() {
		wantOffsets(t, l)
		wantBytes(t, "EncFrame of a list that is not of integers", impl.EncFrame(l), nil)
		wantFrame(t, l)
	}
	for _, v := range wrongVals() {
		for _, l := range [][]impl.Val{{v}, {v, v}, {intOf(1), v}, {v, intOf(1)}, {intOf(1), intOf(3), v}, {textOf("a"), v}} {
			wantFrame(t, l)
		}
	}
}

func TestFrameAllShort(t *testing.T) {
	for _, l := range slices.Concat(
		listsOf(5, intOf(10), intOf(12), intOf(11), intOf(-1)),
		listsOf(4, intOf(0), intOf(mostNum), intOf(-mostNum), intOf(mostNum-1), intOf(1-mostNum), textOf("")),
		listsOf(4, intOf(3), intOf(-3), textOf("a"), impl.Val{}, impl.Val{Ty: tyInt, S: "a"}, intOf(mostNum+1)),
		listsOf(9, intOf(1), intOf(0)),
	) {
		wantFrame(t, l)
	}
}

func TestFrameEqualValues(t *testing.T) {
	for _, n := range []int{0, 1, -1, 5, 63, 64, -64, -65, 8192, mostNum - 1, mostNum, 1 - mostNum, -mostNum} {
		b := impl.EncFrame(intsOf(n))
		wantBytes(t, "EncFrame of one value", b, append(plainNum(n), 0))
		for k := 1; k <= mostVals+2; k++ {
			wantFrame(t, cycleOf(k, intOf(n)))
		}
		for k := 1; k <= mostVals; k++ {
			wantBytes(t, "EncFrame of equal values", impl.EncFrame(cycleOf(k, intOf(n))), b)
			wantFrameDecoded(t, b, cycleOf(k, intOf(n)))
			wantFrameNotDecoded(t, append(slices.Clone(b), make([]byte, (k+7)/8)...), k)
			for end := range len(b) {
				wantFrameNotDecoded(t, b[:end], k)
			}
			for c := range 256 {
				wantFrameNotDecoded(t, append(slices.Clone(b), byte(c)), k)
			}
		}
		for _, k := range []int{0, -1, -mostVals, mostVals + 1, 100, 256, 257, 1 << 32, 1<<32 + 1, -1 << 32, 1 - 1<<32, math.MaxInt, math.MinInt, math.MinInt + 1} {
			wantFrameNotDecoded(t, b, k)
		}
	}
}

func TestFrameWithinCapacity(t *testing.T) {
	l := intsOf(12, 10, 11, -5, 10)
	wantBase(t, l[:0], 0)
	wantBase(t, l[:1], 12)
	wantBase(t, l[:3], 10)
	wantBase(t, l[2:3], 11)
	wantBase(t, l[5:], 0)
	wantOffsets(t, l[:0])
	wantOffsets(t, l[:3], 2, 0, 1)
	wantOffsets(t, l[4:], 0)
	wantFrame(t, cycleOf(mostVals+1, intOf(1), intOf(4))[:mostVals])
	wantFrame(t, append(cycleOf(mostVals, intOf(1), intOf(4)), textOf("a"))[:mostVals])
	wantRaised(t, 1, []int{1, 2, -1}[:2], intsOf(2, 3)...)
	wantRaised(t, 1, []int{-1}[:0])
}

func TestEncFrameBytes(t *testing.T) {
	for _, c := range []struct {
		l    []impl.Val
		want string
	}{
		{intsOf(10, 12, 11), "\x14\x02\x18"}, {intsOf(0), "\x00\x00"}, {intsOf(-1), "\x01\x00"}, {intsOf(150), "\xac\x02\x00"}, {intsOf(5, 5, 5), "\x0a\x00"}, {intsOf(0, 1), "\x00\x01\x02"}, {intsOf(1, 0), "\x00\x01\x01"},
		{intsOf(mostNum), "\x80\xa8\xd6\xb9\x07\x00"}, {intsOf(-mostNum), "\xff\xa7\xd6\xb9\x07\x00"}, {intsOf(mostNum-1, mostNum), "\xfe\xa7\xd6\xb9\x07\x01\x02"},
		{intsOf(-mostNum, mostNum), "\xff\xa7\xd6\xb9\x07\x1f\x00\x00\x00\x00\x00\xca\x9a\x3b"}, {intsOf(mostNum, -mostNum), "\xff\xa7\xd6\xb9\x07\x1f\x00\x94\x35\x77\x00\x00\x00\x00"},
		{intsOf(-3, 252), "\x05\x08\x00\xff"}, {intsOf(-3, 253), "\x05\x09\x00\x00\x02"}, {cycleOf(mostVals, intOf(5)), "\x0a\x00"}, {cycleOf(mostVals, intOf(1), intOf(0)), "\x00\x01\x55\x55\x55\x55\x55\x55\x55\x55"},
		{cycleOf(9, intOf(-65), intOf(-64)), "\x81\x01\x01\xaa\x00"}, {intsOf(7, 7, 7, 8), "\x0e\x01\x08"},
	} {
		wantBytes(t, "EncFrame", impl.EncFrame(c.l), []byte(c.want))
		wantFrameDecoded(t, []byte(c.want), c.l)
		wantFrame(t, c.l)
	}
}

// TestEncFrameSize counts the bytes for every number of values and every width.
func TestEncFrameSize(t *testing.T) {
	for w := 0; w <= mostWidth; w++ {
		for k := 2; k <= mostVals; k++ {
			offsets := offsetsOf(k, w)
			for _, base := range []int{-mostNum, mostNum - slices.Max(offsets)} {
				l := raisedPlainly(base, offsets...)
				if n := len(impl.EncFrame(l)); n != len(plainNum(base))+1+(k*w+7)/8 {
					t.Errorf("EncFrame of %d values of %d bits from %d has %d bytes", k, w, base, n)
				}
				wantFrame(t, l)
			}
		}
	}
}

// TestFrameWidths has offsets on both sides of each power of 2, and the greatest offset.
func TestFrameWidths(t *testing.T) {
	for w := 1; w <= mostWidth; w++ {
		for _, x := range []int{1<<(w-1) - 1, 1 << (w - 1), min(1<<w-1, 2*mostNum), min(1<<w, 2*mostNum)} {
			for _, base := range []int{-mostNum, mostNum - x, -x / 2} {
				wantFrame(t, intsOf(base, base+x))
				wantFrame(t, intsOf(base+x, base))
				wantFrame(t, cycleOf(mostVals, intOf(base+x/2), intOf(base+x), intOf(base)))
			}
		}
	}
}

func TestFrameRoundTrip(t *testing.T) {
	for _, n := range sampleNums() {
		for _, l := range [][]impl.Val{intsOf(n), intsOf(n, n), intsOf(n, 0), intsOf(-mostNum, n), intsOf(n, mostNum), intsOf(-n, 5, n), intsOf(mostNum, n, -mostNum)} {
			wantFrame(t, l)
		}
	}
	for _, l := range frameSamples() {
		wantFrame(t, l)
		wantFrame(t, backwards(l))
	}
	for k := 1; k <= mostVals; k++ {
		wantFrame(t, someVals(tyInt, k))
		wantFrame(t, descending(tyInt, k))
		for split := range k {
			wantFrame(t, append(cycleOf(split, intOf(mostNum)), cycleOf(k-split, intOf(-mostNum))...))
			wantFrame(t, append(differentVals(tyInt, split), cycleOf(k-split, intOf(0))...))
		}
	}
}

func TestDecFrameTable(t *testing.T) {
	wantFrameDecoded(t, []byte{20, 2, 24}, intsOf(10, 12, 11))
	wantFrameDecoded(t, []byte{20, 2, 24}, intsOf(10, 12, 11, 10))
	for _, k := range []int{-3, -1, 0, 1, 5, 6, mostVals, mostVals + 1} {
		wantFrameNotDecoded(t, []byte{20, 2, 24}, k)
	}
	wantFrameNotDecoded(t, []byte{20, 3, 24, 0}, 3)
	wantFrameNotDecoded(t, []byte{20, 3, 208, 0}, 3)
	wantFrameNotDecoded(t, []byte{20, 2, 24, 0}, 3)
	wantFrameNotDecoded(t, []byte{20, 2}, 3)
	wantFrameNotDecoded(t, []byte{20}, 3)
	wantFrameNotDecoded(t, []byte{20, 2, 25}, 3)
	wantFrameNotDecoded(t, []byte{20, 2, 24 + 64}, 3)
	wantFrameDecoded(t, []byte{20, 0}, intsOf(10, 10, 10))
}

func TestDecFrameOtherCounts(t *testing.T) {
	for _, l := range frameSamples() {
		b, k := impl.EncFrame(l), len(l)
		for other := -2; other <= 2*mostVals; other++ {
			// The offsets in the padding are zeros, so a few more values, or a few less, can have this encoding.
			wantPlainFrame(t, b, other)
		}
		for _, other := range []int{-k, k + 256, k + 1<<32, k - 1<<32, math.MaxInt, math.MinInt, math.MinInt + k} {
			wantFrameNotDecoded(t, b, other)
		}
	}
	b := impl.EncFrame(intsOf(-mostNum, mostNum))
	for k := -1; k <= mostVals+1; k++ {
		if k != 2 {
			wantFrameNotDecoded(t, b, k)
		}
	}
	b = impl.EncFrame(intsOf(8, 7, 7))
	wantFrameNotDecoded(t, b, 1)
	for k := 2; k <= 8; k++ {
		wantFrameDecoded(t, b, append(intsOf(8), cycleOf(k-1, intOf(7))...))
	}
	wantFrameNotDecoded(t, b, 9)
}

func TestDecFrameCutOff(t *testing.T) {
	for _, l := range frameSamples() {
		b, k := impl.EncFrame(l), len(l)
		for end := range len(b) {
			wantFrameNotDecoded(t, b[:end], k)
			wantFrameNotDecoded(t, slices.Clone(b[:end]), k)
		}
	}
	whole := impl.EncFrame(intsOf(-mostNum, mostNum))
	for end := range len(whole) {
		wantNoFrameCode(t, whole[:end])
	}
}

func TestDecFrameLeftOver(t *testing.T) {
	for _, l := range frameSamples() {
		b, k := impl.EncFrame(l), len(l)
		for c := range 256 {
			wantFrameNotDecoded(t, append(slices.Clone(b), byte(c)), k)
		}
		wantFrameNotDecoded(t, slices.Concat(b, b), k)
		wantFrameNotDecoded(t, slices.Concat(b, b), 2*k)
		wantPlainFrame(t, append([]byte{0}, b...), k)
	}
}

func TestDecFrameNoBytes(t *testing.T) {
	wantNoFrameCode(t, nil)
	wantNoFrameCode(t, []byte{})
	wantNoFrameCode(t, []byte{0, 0}[:0])
	for _, k := range []int{math.MinInt, math.MaxInt, 1 << 32, 1<<32 + 1} {
		wantFrameNotDecoded(t, nil, k)
		wantFrameNotDecoded(t, []byte{}, k)
	}
	for c := range 256 {
		wantNoFrameCode(t, []byte{byte(c)})
	}
}

// TestDecFrameBase replaces the base by others, and by bytes that are no integer.
func TestDecFrameBase(t *testing.T) {
	for _, l := range frameSamples() {
		b, k := impl.EncFrame(l), len(l)
		offsets := plainOffsets(l)
		tail := b[len(plainNum(plainBase(l))):]
		for _, base := range forgedNums() {
			forged := append(plainNum(base), tail...)
			if slices.Max(offsets) > mostNum-base {
				wantFrameNotDecoded(t, forged, k)
			} else {
				wantFrameDecoded(t, forged, raisedPlainly(base, offsets...))
			}
		}
		for _, base := range []string{
			"\x80", "\xff", "\x80\x00", "\x94\x00", "\x94\x80\x00", "\x80\x80\x80\x80\x00", "\x81\xa8\xd6\xb9\x07", "\x82\xa8\xd6\xb9\x07", "\xff\xff\xff\xff\x07", "\xff\xff\xff\xff\x0f", "\xff\xff\xff\xff\x7f",
			"\x80\x80\x80\x80\x80\x01", "\x80\xa8\xd6\xb9\x87\x00", "\xff\xff\xff\xff\xff\xff\xff\xff\xff\x01",
		} {
			wantPlainFrame(t, append([]byte(base), tail...), k)
			wantNoFrameCode(t, []byte(base))
		}
	}
	for _, b := range []string{"\x94\x00\x02\x18", "\x94\x80\x00\x02\x18", "\x80\x00\x00", "\x81\xa8\xd6\xb9\x07\x00", "\x82\xa8\xd6\xb9\x07\x00", "\xff\xff\xff\xff\x0f\x00", "\xff\xff\xff\xff\x7f\x00", "\x80\x80\x80\x80\x80\x01\x00"} {
		wantNoFrameCode(t, []byte(b))
	}
	wantFrameDecoded(t, []byte("\x80\xa8\xd6\xb9\x07\x00"), intsOf(mostNum))
	wantFrameDecoded(t, []byte("\xff\xa7\xd6\xb9\x07\x00"), intsOf(-mostNum))
}

// TestDecFrameWider packs the right offsets with each width that is greater than they need.
func TestDecFrameWider(t *testing.T) {
	for _, l := range frameSamples() {
		base, offsets := plainBase(l), plainOffsets(l)
		for w := plainWidth(offsets); w <= 62; w++ {
			b := frameCode(base, w, offsets...)
			if w == plainWidth(offsets) {
				wantFrameDecoded(t, b, l)
			} else {
				wantFrameNotDecoded(t, b, len(l))
			}
		}
	}
	for w := 1; w <= mostWidth; w++ {
		for k := 1; k <= mostVals; k++ {
			wantFrameNotDecoded(t, frameCode(4, w, make([]int, k)...), k)
		}
	}
}

// TestDecFrameWidth writes each byte where the width was, before offsets of another width.
func TestDecFrameWidth(t *testing.T) {
	for _, l := range frameSamples() {
		b, k := impl.EncFrame(l), len(l)
		at := len(plainNum(plainBase(l)))
		for w := range 256 {
			forged := slices.Clone(b)
			forged[at] = byte(w)
			wantPlainFrame(t, forged, k)
			if w > mostWidth {
				wantFrameNotDecoded(t, forged, k)
			}
		}
	}
	for w := mostWidth + 1; w < 256; w++ {
		for k := 1; k <= mostVals; k++ {
			for _, size := range []int{0, 1, (k*w + 7) / 8, (k*(w%32) + 7) / 8, (k*31 + 7) / 8} {
				wantFrameNotDecoded(t, slices.Concat([]byte{0, byte(w)}, make([]byte, size)), k)
				wantFrameNotDecoded(t, slices.Concat([]byte{0, byte(w)}, bytes.Repeat([]byte{2}, size)), k)
			}
		}
		wantNoFrameCode(t, []byte{20, byte(w), 24})
	}
}

// TestDecFrameNoZero raises all offsets, so that the base is not the smallest integer.
func TestDecFrameNoZero(t *testing.T) {
	for _, l := range frameSamples() {
		base, offsets := plainBase(l), plainOffsets(l)
		for _, more := range []int{1, 2, 3, 7, 64, 1 << 20} {
			raised := slices.Clone(offsets)
			for i := range raised {
				raised[i] += more
			}
			for _, lower := range []int{base, base - more} {
				if lower >= -mostNum {
					wantFrameNotDecoded(t, frameCode(lower, plainWidth(raised), raised...), len(l))
				}
			}
		}
	}
	for w := 1; w <= mostWidth; w++ {
		greatest := min(1<<w-1, 2*mostNum)
		for _, k := range []int{1, 2, 9, mostVals} {
			wantFrameNotDecoded(t, frameCode(-mostNum, w, cycleOfInts(k, greatest)...), k)
			wantFrameNotDecoded(t, frameCode(-mostNum, w, cycleOfInts(k, greatest, 1)...), k)
		}
	}
	wantNoFrameCode(t, []byte{20, 2, 0x55})
	wantNoFrameCode(t, []byte{0, 1, 0xff})
	wantFrameDecoded(t, []byte{0, 1, 0x7f}, intsOf(1, 1, 1, 1, 1, 1, 1, 0))
}

// TestDecFrameBeyond has an offset that is too large for the base, in each place.
func TestDecFrameBeyond(t *testing.T) {
	for _, base := range []int{mostNum, mostNum - 1, mostNum - 2, mostNum - 255, 1, 0, -1, 1 - mostNum, -mostNum} {
		room := mostNum - base
		for _, x := range []int{room + 1, room + 2, 2*room + 1, room + 1<<16, 2 * mostNum, 2*mostNum + 1, mostPacked - 1, mostPacked} {
			if x <= room || x > mostPacked {
				continue
			}
			for k := 2; k <= 9; k++ {
				for at := range k {
					offsets := make([]int, k)
					offsets[at] = x
					wantFrameNotDecoded(t, frameCode(base, plainWidth(offsets), offsets...), k)
				}
			}
		}
		wantFrameDecoded(t, frameCode(base, plainWidth([]int{room}), 0, room, room), intsOf(base, mostNum, mostNum))
	}
	wantNoFrameCode(t, []byte("\x80\xa8\xd6\xb9\x07\x01\x02"))
}

// TestDecFramePadding sets each bit behind the last offset.
func TestDecFramePadding(t *testing.T) {
	for _, l := range frameSamples() {
		b, k := impl.EncFrame(l), len(l)
		for bit := k * plainWidth(plainOffsets(l)) % 8; bit > 0 && bit < 8; bit++ {
			set := slices.Clone(b)
			set[len(set)-1] |= 1 << bit
			wantFrameNotDecoded(t, set, k)
		}
	}
	for bit := 6; bit < 8; bit++ {
		wantFrameNotDecoded(t, []byte{20, 2, 24 | 1<<bit}, 3)
	}
}

// TestDecFrameTooMany has the right number of values, which is too large.
func TestDecFrameTooMany(t *testing.T) {
	for _, k := range []int{mostVals + 1, mostVals + 2, 100, 256, 257, 1000} {
		for w := 0; w <= mostWidth; w += 3 {
			offsets := offsetsOf(k, w)
			b := frameCode(-mostNum, plainWidth(offsets), offsets...)
			wantFrameNotDecoded(t, b, k)
			if w > 0 {
				wantFrameNotDecoded(t, b, mostVals)
			}
		}
	}
	for w := range mostWidth + 1 {
		offsets := offsetsOf(mostVals, w)
		wantFrameDecoded(t, frameCode(-mostNum, w, offsets...), raisedPlainly(-mostNum, offsets...))
	}
}

func TestDecFrameWithinCapacity(t *testing.T) {
	whole := []byte{20, 2, 24}
	for end := range len(whole) {
		wantNoFrameCode(t, whole[:end])
	}
	wantFrameDecoded(t, append(slices.Clone(whole), 0, 0)[:3], intsOf(10, 12, 11))
	wantFrameDecoded(t, []byte{20, 0, 24}[:2], intsOf(10))
	wantNoFrameCode(t, []byte{172, 2, 0}[:1])
}

func TestFrameDecodedAreEncodings(t *testing.T) {
	want := func(counts []int, b ...byte) {
		for _, k := range counts {
			wantPlainFrame(t, b, k)
		}
	}
	few, many := []int{1, 2, 3}, []int{0, 1, 2, 3, 4, 5, 7, 8, 9, 16, 32, mostVals, mostVals + 1}
	want(many)
	for x := range 256 {
		want(many, byte(x))
		for y := range 256 {
			want(many, byte(x), byte(y))
			want(many, 20, byte(x), byte(y))
			want(many[:9], 20, 2, byte(x), byte(y))
			want(few, 5, 9, byte(x), byte(y), 0)
			want(few, byte(x), byte(y), 1, 2)
			want(few, 254, 167, 214, byte(x), byte(y), 1, 2)
			want(few, 255, 167, 214, 185, 7, 31, 0, 0, 0, 0, 0, byte(x), byte(y), 59)
			want(few, 255, 167, 214, 185, 7, 31, 0, 0, 0, 0, 0, 202, byte(x), byte(y))
		}
	}
	for _, b := range slices.Concat(listsOf[byte](5, 0, 1, 2, 3, 128), listsOf[byte](4, 0, 1, 2, 7, 8, 24, 31, 32, 127, 128, 255)) {
		want(many, b...)
	}
}

func TestNearFrameCodes(t *testing.T) {
	for _, l := range [][]impl.Val{
		intsOf(0), intsOf(mostNum), intsOf(-mostNum), intsOf(10, 12, 11), intsOf(-70, -70), intsOf(-mostNum, mostNum), intsOf(mostNum, mostNum-1, mostNum), cycleOf(mostVals, intOf(5)),
		cycleOf(mostVals, intOf(5), intOf(4)), descending(tyInt, 5), descending(tyInt, 9), intsOf(0, mostNum, -1),
	} {
		for _, near := range nearTexts(string(impl.EncFrame(l))) {
			for _, k := range []int{1, len(l) - 1, len(l), len(l) + 1} {
				wantPlainFrame(t, []byte(near), k)
			}
		}
	}
}

func TestRaisedTable(t *testing.T) {
	wantRaised(t, 10, []int{0, 2, 1}, intsOf(10, 12, 11)...)
	wantRaised(t, 0, []int{0}, intsOf(0)...)
	wantRaised(t, 5, []int{7}, intsOf(12)...)
	wantRaised(t, -5, []int{3, 5, 9, 3}, intsOf(-2, 0, 4, -2)...)
	wantRaised(t, mostNum, []int{0, 0}, intsOf(mostNum, mostNum)...)
	wantRaised(t, -mostNum, []int{0, 2 * mostNum, mostNum, 1}, intsOf(-mostNum, mostNum, 0, 1-mostNum)...)
	wantRaised(t, mostNum-1, []int{1, 0}, intsOf(mostNum, mostNum-1)...)
	wantRaised(t, 0, []int{mostNum}, intsOf(mostNum)...)
	wantRaised(t, 1-mostNum, []int{2*mostNum - 1}, intsOf(mostNum)...)
	wantRaised(t, 3, listFrom(0, 1000), intsOf(listFrom(3, 1000)...)...)
	wantRaised(t, 3, make([]int, 1<<16+1), cycleOf(1<<16+1, intOf(3))...)
}

func TestRaisedEmpty(t *testing.T) {
	for _, base := range []int{0, 1, -1, 7, mostNum - 1, mostNum, 1 - mostNum, -mostNum} {
		wantRaised(t, base, nil)
		wantRaised(t, base, []int{})
	}
	for _, base := range beyondNums() {
		wantNotRaised(t, base)
		wantNotRaised(t, base, []int{}...)
	}
}

func TestRaisedBase(t *testing.T) {
	for _, base := range beyondNums() {
		for _, x := range []int{0, 1, 2, mostNum, 2 * mostNum, -1, 2*mostNum + 1, math.MaxInt, math.MinInt, -base, 5 - base, mostNum - base, -mostNum - base} {
			wantNotRaised(t, base, x)
			wantNotRaised(t, base, x, x)
			wantNotRaised(t, base, 0, x)
		}
	}
}

// TestRaisedElement puts one wrong element first, last and between others, which are raised on their
// own.
func TestRaisedElement(t *testing.T) {
	for _, base := range []int{-mostNum, 1 - mostNum, -1, 0, 1, mostNum - 2, mostNum - 1, mostNum} {
		room := mostNum - base
		wantRaised(t, base, []int{0, room, room / 2}, intsOf(base, mostNum, base+room/2)...)
		for _, x := range []int{
			-1, -2, -mostNum, -2 * mostNum, base - mostNum - 1, -mostNum - base - 1, room + 1, room + 2, 2*mostNum + 1, 2*mostNum + 2, 1 << 31, 1 << 32, 1<<32 + 1, 1 - 1<<32, 1 << 62, -1 << 62,
			math.MaxInt, math.MaxInt - 1, math.MaxInt - mostNum, math.MaxInt - mostNum + 1, math.MaxInt - mostNum + 2, math.MinInt, math.MinInt + 1, math.MinInt + mostNum,
		} {
			if x >= 0 && x <= room {
				continue
			}
			for _, l := range [][]int{{x}, {x, x}, {x, 0}, {0, x}, {0, x, room}, append(make([]int, 100), x), append([]int{x}, make([]int, 100)...)} {
				wantNotRaised(t, base, l...)
			}
		}
	}
}

func TestRaisedAllShort(t *testing.T) {
	for _, base := range []int{-mostNum - 1, -mostNum, 1 - mostNum, -1, 0, 1, mostNum - 1, mostNum, mostNum + 1} {
		for _, l := range listsOf(3, -1, 0, 1, 2, mostNum, mostNum+1, 2*mostNum-1, 2*mostNum, 2*mostNum+1) {
			ok := base >= -mostNum && base <= mostNum
			for _, x := range l {
				ok = ok && x >= 0 && x <= 2*mostNum && base+x <= mostNum
			}
			if ok {
				wantRaised(t, base, l, raisedPlainly(base, l...)...)
			} else {
				wantNotRaised(t, base, l...)
			}
		}
	}
}

// TestFrameMemory overwrites arguments and results of all functions that take values.
func TestFrameMemory(t *testing.T) {
	mark := impl.Val{Ty: tyInt, N: -mostNum}
	for _, values := range append(frameSamples(), notFrames()...) {
		l, check := spare(t, mark, values...)
		wantFrame(t, l)
		wantOffset, wantCode := impl.Offsets(values), impl.EncFrame(values)
		first, last := impl.Offsets(l), impl.Offsets(l)
		firstCode, lastCode := impl.EncFrame(l), impl.EncFrame(l)
		scribble(first, 99)
		scribble(firstCode, 99)
		check("the list of Base, Offsets, EncFrame and Reach")
		scribble(l, intOf(77))
		if !slices.Equal(last, wantOffset) {
			t.Errorf("Offsets, its argument and another result overwritten: %v, want %v", last, wantOffset)
		}
		wantBytes(t, "EncFrame, its argument and another result overwritten", lastCode, wantCode)
	}
}

func TestRaisedMemory(t *testing.T) {
	for _, offsets := range [][]int{{}, {0}, {2, 1, 0}, {0, 0, 0, 0}, {-1}, {0, 2*mostNum + 1}, {mostNum}, listFrom(0, 100)} {
		for _, base := range []int{0, 5, -mostNum, mostNum, mostNum + 1} {
			l, check := spare(t, 1, offsets...)
			want, wantOk := impl.Raised(base, offsets)
			first, _ := impl.Raised(base, l)
			last, ok := impl.Raised(base, l)
			scribble(first, intOf(99))
			check("the list of Raised")
			scribble(l, 99)
			if !slices.Equal(last, want) || ok != wantOk {
				t.Errorf("Raised, its argument and another result overwritten: %v, %v; want %v, %v", last, ok, want, wantOk)
			}
		}
	}
}

func TestDecFrameMemory(t *testing.T) {
	codes := append(argumentBytes(), []byte{0}, []byte{20, 2, 25}, []byte{20, 3, 24, 0})
	for _, l := range frameSamples() {
		codes = append(codes, impl.EncFrame(l), append(impl.EncFrame(l), 0))
	}
	for _, code := range codes {
		b, check := spare(t, 2, code...)
		for k := -1; k <= mostVals+1; k++ {
			l, _ := impl.DecFrame(b, k)
			scribble(l, textOf("gone"))
		}
		check("DecFrame")
	}
	for _, want := range frameSamples() {
		b := impl.EncFrame(want)
		first, _ := impl.DecFrame(b, len(want))
		last, _ := impl.DecFrame(b, len(want))
		scribble(first, textOf("gone"))
		scribble(b, 'x')
		if !slices.Equal(last, want) {
			t.Errorf("DecFrame, its bytes and another result overwritten: %v, want %v", last, want)
		}
	}
}

func TestFrameStaysTheSame(t *testing.T) {
	want := intsOf(10, 12, 11)
	for range 3 {
		b := impl.EncFrame(want)
		wantBytes(t, "EncFrame again", b, []byte{20, 2, 24})
		wantFrameDecoded(t, b, want)
		wantFrameNotDecoded(t, b, 2)
		wantFrameNotDecoded(t, b[:2], 3)
		failed, _ := impl.DecFrame(b, 5)
		scribble(failed, intOf(9))
		scribble(impl.EncFrame(nil), 99)
		wantBytes(t, "EncFrame of nothing", impl.EncFrame(nil), nil)
		scribble(impl.Offsets(nil), 9)
		wantOffsets(t, nil)
		wantOffsets(t, want, 0, 2, 1)
		notRaised, _ := impl.Raised(mostNum, []int{1})
		scribble(notRaised, intOf(9))
		wantNotRaised(t, mostNum, 1)
		wantRaised(t, 10, []int{0, 2, 1}, want...)
		wantBase(t, want, 10)
		scribble(b, 0)
	}
}
