package tests

import (
	"bytes"
	"math"
	"slices"
	"strconv"
	"strings"
	"testing"

	"loop.example/g00496/impl"
)

const (
	mostWidth  = 31
	mostPacked = 2147483647
)

func wrongWidths() []int {
	return []int{-1, -2, -8, -31, mostWidth + 1, mostWidth + 2, 63, 64, 65, 1 << 32, math.MaxInt, math.MaxInt - 1, math.MinInt, math.MinInt + 1}
}

// unpackable returns the integers that no width can hold. The low bits of some of them are zeros.
func unpackable() []int {
	return []int{-1, -2, -mostPacked, -mostPacked - 1, -mostPacked - 2, mostPacked + 1, mostPacked + 2, 1 << 32, 1<<32 + 1, 1 << 62, math.MaxInt, math.MinInt, math.MinInt + 1}
}

// packable returns k integers of at most w bits: the ends of the range and a mixture in between.
func packable(k, w int) []int {
	l := make([]int, k)
	for i := range l {
		switch i % 5 {
		case 0:
			l[i] = 1<<w - 1
		case 1:
			l[i] = (1234567891 * (i + w)) % (1 << w)
		case 2:
			l[i] = 0
		case 3:
			l[i] = 1 << w / 2
		case 4:
			l[i] = min(1, 1<<w-1)
		}
	}
	return l
}

// plainBits writes the bits of b as characters in the document's order.
func plainBits(b []byte) string {
	var out strings.Builder
	for _, c := range b {
		digits := []byte(strconv.FormatInt(int64(c)+256, 2)[1:])
		slices.Reverse(digits)
		out.Write(digits)
	}
	return out.String()
}

// plainPack packs integers of at most w bits by way of their binary digits, apart from the program.
func plainPack(l []int, w int) []byte {
	var all []byte
	for _, n := range l {
		digits := []byte(strconv.FormatInt(int64(n)+1<<w, 2)[1:])
		slices.Reverse(digits)
		all = append(all, digits...)
	}
	for len(all)%8 != 0 {
		all = append(all, '0')
	}
	var out []byte
	for ; len(all) > 0; all = all[8:] {
		digits := slices.Clone(all[:8])
		slices.Reverse(digits)
		c, _ := strconv.ParseUint(string(digits), 2, 8)
		out = append(out, byte(c))
	}
	return out
}

func wantPacked(t *testing.T, l []int, w int, want []byte) {
	t.Helper()
	if b := impl.PackBits(l, w); !bytes.Equal(b, want) {
		t.Errorf("PackBits(%v, %d) = %v, want %v", l, w, b, want)
	}
}

func wantUnpacked(t *testing.T, b []byte, w, k int, want []int) {
	t.Helper()
	if l, ok := impl.UnpackBits(b, w, k); !slices.Equal(l, want) || !ok {
		t.Errorf("UnpackBits(%v, %d, %d) = %v, %v; want %v, true", b, w, k, l, ok, want)
	}
}

func wantNotUnpacked(t *testing.T, b []byte, w, k int) {
	t.Helper()
	if l, ok := impl.UnpackBits(b, w, k); len(l) != 0 || ok {
		t.Errorf("UnpackBits(%v, %d, %d) = %v, %v; want none, false", b, w, k, l, ok)
	}
}

func wantBit(t *testing.T, b []byte, n, want int) {
	t.Helper()
	if got := impl.BitAt(b, n); got != want {
		t.Errorf("BitAt(%v, %d) = %d, want %d", b, n, got, want)
	}
}

func TestMaxWidth(t *testing.T) {
	if impl.MaxWidth != mostWidth {
		t.Error(impl.MaxWidth)
	}
}

func wantWidthOf(t *testing.T, n, want int) {
	t.Helper()
	if w := impl.WidthOf(n); w != want {
		t.Errorf("WidthOf(%d) = %d, want %d", n, w, want)
	}
}

func TestWidthOf(t *testing.T) {
	wantWidthOf(t, 0, 0)
	for n := 1; n <= 70000; n++ {
		wantWidthOf(t, n, len(strconv.FormatInt(int64(n), 2)))
	}
	for w := 1; w <= mostWidth; w++ {
		wantWidthOf(t, 1<<(w-1), w)
		wantWidthOf(t, 1<<w-1, w)
	}
	wantWidthOf(t, mostPacked, mostWidth)
	for _, n := range unpackable() {
		wantWidthOf(t, n, 0)
	}
}

func TestWidthFor(t *testing.T) {
	for _, c := range []struct {
		l    []int
		want int
	}{
		{nil, 0}, {[]int{}, 0}, {[]int{0}, 0}, {[]int{0, 0, 0}, 0}, {[]int{1}, 1}, {[]int{1, 4}, 3}, {[]int{4, 1}, 3},
		{[]int{0, 255, 3}, 8}, {[]int{0, 256, 3}, 9}, {[]int{3, 2, 1, 0, 8}, 4}, {[]int{16, 3, 2, 1, 0}, 5},
		{[]int{mostPacked}, 31}, {[]int{mostPacked, 0}, 31}, {[]int{mostPacked + 1}, 0}, {[]int{mostPacked + 1, 5}, 3},
		{[]int{5, mostPacked + 1}, 3}, {[]int{-1}, 0}, {[]int{-100, -5}, 0}, {[]int{-100, 6, -5}, 3}, {unpackable(), 0},
		{append(make([]int, 1000), 7), 3}, {append([]int{7}, make([]int, 1000)...), 3},
	} {
		if w := impl.WidthFor(c.l); w != c.want {
			t.Errorf("WidthFor(%v) = %d, want %d", c.l, w, c.want)
		}
	}
	whole := []int{1, 2, 1000}
	if w := impl.WidthFor(whole[:2]); w != 2 {
		t.Errorf("WidthFor(%v) = %d, want 2", whole[:2], w)
	}
}

func TestPackBitsBytes(t *testing.T) {
	for _, c := range []struct {
		l    []int
		w    int
		want []byte
	}{
		{[]int{5, 2, 7}, 3, []byte{213, 1}},
		{[]int{1}, 1, []byte{1}}, {[]int{0, 1}, 1, []byte{2}}, {[]int{0, 0, 0, 0, 0, 0, 0, 1}, 1, []byte{128}},
		{[]int{1, 0, 1, 1, 0, 0, 0, 0, 1}, 1, []byte{13, 1}}, {[]int{1}, 2, []byte{1}}, {[]int{2}, 2, []byte{2}},
		{[]int{0}, 1, []byte{0}}, {[]int{0}, 8, []byte{0}}, {[]int{0}, 9, []byte{0, 0}}, {[]int{0}, 31, []byte{0, 0, 0, 0}},
		{[]int{200, 0, 255}, 8, []byte{200, 0, 255}}, {[]int{200, 255}, 9, []byte{200, 254, 1}},
		{[]int{258}, 16, []byte{2, 1}}, {[]int{mostPacked}, 31, []byte{255, 255, 255, 127}},
		{[]int{1, mostPacked}, 31, []byte{1, 0, 0, 128, 255, 255, 255, 63}}, {[]int{mostPacked, 1}, 31, []byte{255, 255, 255, 255, 0, 0, 0, 0}},
		{[]int{0, 0}, 31, []byte{0, 0, 0, 0, 0, 0, 0, 0}},
	} {
		wantPacked(t, c.l, c.w, c.want)
		wantUnpacked(t, c.want, c.w, len(c.l), c.l)
	}
}

func TestWidthZero(t *testing.T) {
	for _, k := range []int{0, 1, 2, 8, 63, 64} {
		wantPacked(t, make([]int, k), 0, nil)
		wantUnpacked(t, nil, 0, k, make([]int, k))
		wantUnpacked(t, []byte{}, 0, k, make([]int, k))
		wantNotUnpacked(t, []byte{0}, 0, k)
		wantNotUnpacked(t, []byte{1}, 0, k)
		wantNotUnpacked(t, []byte{0, 0}, 0, k)
		if size := impl.BytesFor(k, 0); size != 0 {
			t.Errorf("BytesFor(%d, 0) = %d", k, size)
		}
	}
	wantPacked(t, make([]int, 65), 0, nil)
	for _, k := range []int{-1, 65, math.MinInt, math.MaxInt} {
		wantNotUnpacked(t, nil, 0, k)
		wantNotUnpacked(t, []byte{0}, 0, k)
	}
	for _, n := range []int{1, 2, 256, mostPacked, mostPacked + 1, -1} {
		wantPacked(t, []int{n}, 0, nil)
		wantPacked(t, []int{0, n}, 0, nil)
	}
}

func TestPackBitsEmptyList(t *testing.T) {
	for w := range mostWidth + 1 {
		wantPacked(t, nil, w, nil)
		wantPacked(t, []int{}, w, nil)
		wantUnpacked(t, nil, w, 0, nil)
		wantUnpacked(t, []byte{}, w, 0, nil)
		wantNotUnpacked(t, []byte{0}, w, 0)
	}
}

func TestBitsRoundTrip(t *testing.T) {
	for w := range mostWidth + 1 {
		for k := range 65 {
			l := packable(k, w)
			b := plainPack(l, w)
			wantPacked(t, l, w, b)
			wantUnpacked(t, b, w, k, l)
			if size := impl.BytesFor(k, w); size != len(b) {
				t.Errorf("BytesFor(%d, %d) = %d, want %d", k, w, size, len(b))
			}
		}
		for _, k := range []int{65, 66, 100, 1000, 10000} {
			l := packable(k, w)
			wantPacked(t, l, w, plainPack(l, w))
		}
	}
}

func TestPackBitsEveryBit(t *testing.T) {
	for w := 1; w <= mostWidth; w++ {
		for i := range 9 {
			for bit := range w {
				l := make([]int, 9)
				l[i] = 1 << bit
				b := make([]byte, (9*w+7)/8)
				b[(i*w+bit)/8] = 1 << ((i*w + bit) % 8)
				wantPacked(t, l, w, b)
				wantUnpacked(t, b, w, 9, l)
			}
		}
	}
}

func TestPackBitsRejectsWidths(t *testing.T) {
	for _, w := range wrongWidths() {
		for _, l := range [][]int{nil, {}, {0}, {1}, {0, 0, 0}, {mostPacked}, {-1}} {
			wantPacked(t, l, w, nil)
		}
	}
}

func TestPackBitsRejectsElements(t *testing.T) {
	for w := range mostWidth + 1 {
		wrong := unpackable()
		for wider := w; wider <= mostWidth; wider++ {
			wrong = append(wrong, 1<<wider, 1<<wider+1, 2<<wider-1)
		}
		for _, n := range wrong {
			if n >= 0 && n < 1<<w {
				continue
			}
			for _, l := range [][]int{{n}, {n, 0}, {0, n}, {0, n, 0}, append(packable(64, w), n), append([]int{n}, packable(64, w)...)} {
				wantPacked(t, l, w, nil)
			}
		}
	}
}

func TestPackBitsWithinCapacity(t *testing.T) {
	whole := []int{1, 2, 1000, -1}
	wantPacked(t, whole[:2], 2, []byte{9})
	wantPacked(t, whole[:0], 2, nil)
}

func TestUnpackBitsLengths(t *testing.T) {
	for w := range mostWidth + 1 {
		for k := range 65 {
			b := plainPack(packable(k, w), w)
			wantNotUnpacked(t, append(slices.Clone(b), 0), w, k)
			wantNotUnpacked(t, append(slices.Clone(b), 1), w, k)
			wantNotUnpacked(t, append([]byte{0}, b...), w, k)
			if len(b) > 0 {
				wantNotUnpacked(t, b[:len(b)-1], w, k)
				wantNotUnpacked(t, make([]byte, len(b)-1), w, k)
				wantNotUnpacked(t, nil, w, k)
			}
		}
	}
}

func TestUnpackBitsPadding(t *testing.T) {
	for w := range mostWidth + 1 {
		for k := range 65 {
			l := packable(k, w)
			for n := k * w; n < (k*w+7)/8*8; n++ {
				b := plainPack(l, w)
				b[n/8] |= 1 << (n % 8)
				wantNotUnpacked(t, b, w, k)
			}
		}
	}
}

func TestUnpackBitsCounts(t *testing.T) {
	for w := range mostWidth + 1 {
		wantUnpacked(t, plainPack(packable(64, w), w), w, 64, packable(64, w))
		for _, k := range []int{65, 66, 72, 128, 1000} {
			wantNotUnpacked(t, plainPack(packable(k, w), w), w, k)
			wantNotUnpacked(t, nil, w, k)
		}
		for _, k := range []int{-1, -2, -8, -64, math.MinInt, math.MinInt + 1, math.MaxInt, math.MaxInt - 1, 1 << 32, 1 << 61, 1 << 62} {
			wantNotUnpacked(t, nil, w, k)
			wantNotUnpacked(t, []byte{0}, w, k)
			wantNotUnpacked(t, make([]byte, 8), w, k)
		}
	}
}

func TestUnpackBitsRejectsWidths(t *testing.T) {
	for _, w := range wrongWidths() {
		for _, size := range []int{0, 1, 4, 8, 16, 248, 256, 512, 520} {
			for _, k := range []int{-1, 0, 1, 2, 8, 64, 65} {
				wantNotUnpacked(t, make([]byte, size), w, k)
			}
		}
	}
	wantNotUnpacked(t, []byte{5, 0, 0, 0}, 32, 1)
	wantNotUnpacked(t, []byte{1, 0, 0, 0, 2, 0, 0, 0}, 32, 2)
}

// TestUnpackBitsOnlyPackings checks that bytes are unpacked exactly if a list is packed to them.
func TestUnpackBitsOnlyPackings(t *testing.T) {
	for x := range 256 {
		for y := range 256 {
			b := []byte{byte(x), byte(y)}
			digits := plainBits(b)
			for w := 1; w <= 17; w++ {
				for k := range 18 {
					used := k * w
					if used <= 8 || used > 16 || strings.Contains(digits[used:], "1") {
						if _, ok := impl.UnpackBits(b, w, k); ok {
							t.Fatalf("UnpackBits(%v, %d, %d) is true", b, w, k)
						}
						continue
					}
					l, ok := impl.UnpackBits(b, w, k)
					if !ok || len(l) != k || !bytes.Equal(plainPack(l, w), b) || !bytes.Equal(impl.PackBits(l, w), b) {
						t.Fatalf("UnpackBits(%v, %d, %d) = %v, %v", b, w, k, l, ok)
					}
				}
			}
		}
	}
}

func TestUnpackBitsWithinCapacity(t *testing.T) {
	whole := []byte{213, 1, 7, 7}
	wantUnpacked(t, whole[:2], 3, 3, []int{5, 2, 7})
	wantNotUnpacked(t, whole[:1], 3, 3)
	wantNotUnpacked(t, whole[:0], 3, 3)
}

func TestBytesFor(t *testing.T) {
	for k := -3; k <= 67; k++ {
		for w := -3; w <= mostWidth+3; w++ {
			want := 0
			if k >= 0 && k <= 64 && w >= 0 && w <= mostWidth {
				for want*8 < k*w {
					want++
				}
			}
			if size := impl.BytesFor(k, w); size != want {
				t.Errorf("BytesFor(%d, %d) = %d, want %d", k, w, size, want)
			}
		}
	}
	for _, c := range [][3]int{{64, 31, 248}, {64, 1, 8}, {1, 31, 4}, {1, 8, 1}, {1, 9, 2}, {0, 31, 0}, {64, 0, 0}} {
		if size := impl.BytesFor(c[0], c[1]); size != c[2] {
			t.Errorf("BytesFor(%d, %d) = %d, want %d", c[0], c[1], size, c[2])
		}
	}
	far := append(wrongWidths(), -64, -65, 1<<31, 1<<62, -1<<62)
	for _, x := range far {
		for _, y := range append(far, 0, 1, 8, 31) {
			if impl.BytesFor(y, x) != 0 {
				t.Errorf("BytesFor(%d, %d) = %d, want 0", y, x, impl.BytesFor(y, x))
			}
		}
	}
	for _, k := range []int{-1, -64, 65, 66, 1 << 32, 1 << 62, math.MaxInt, math.MinInt} {
		for w := range mostWidth + 1 {
			if impl.BytesFor(k, w) != 0 {
				t.Errorf("BytesFor(%d, %d) = %d, want 0", k, w, impl.BytesFor(k, w))
			}
		}
	}
}

func TestBitAt(t *testing.T) {
	for x := range 256 {
		b := []byte{byte(x), byte(255 - x), 0, 255, byte(x)}
		for n, digit := range plainBits(b) {
			wantBit(t, b, n, int(digit-'0'))
		}
	}
	for i := range 100 {
		b := make([]byte, 100)
		b[i] = 128
		wantBit(t, b, 8*i+7, 1)
		wantBit(t, b, 8*i+6, 0)
		wantBit(t, b, 8*i+8, 0)
	}
}

func TestBitAtBeyond(t *testing.T) {
	whole := bytes.Repeat([]byte{255}, 100)
	for _, size := range []int{0, 1, 2, 99} {
		b := whole[:size]
		for n := range 8 * size {
			wantBit(t, b, n, 1)
		}
		far := []int{-1, -2, -7, -8, -9, -16, 1 << 32, 1 << 61, 1 << 62, math.MaxInt, math.MaxInt - 7, math.MinInt, math.MinInt + 1, math.MinInt + 8}
		for k := range 20 {
			far = append(far, 8*size+k)
		}
		for _, n := range far {
			wantBit(t, b, n, 0)
		}
	}
	wantBit(t, nil, 0, 0)
	wantBit(t, nil, -1, 0)
}

func TestBitAtPacked(t *testing.T) {
	for w := 1; w <= mostWidth; w++ {
		l := packable(64, w)
		b := impl.PackBits(l, w)
		for i, n := range l {
			for bit := range w {
				wantBit(t, b, i*w+bit, n>>bit&1)
			}
		}
	}
}

func TestPackBitsMemory(t *testing.T) {
	for w := -1; w <= mostWidth+1; w++ {
		for _, k := range []int{0, 1, 3, 8, 64, 65} {
			l, check := spare(t, 3, packable(k, max(w, 0))...)
			var want []byte
			if w >= 0 && w <= mostWidth {
				want = plainPack(l, w)
			}
			first, second := impl.PackBits(l, w), impl.PackBits(l, w)
			impl.WidthFor(l)
			scribble(first, 99)
			check("PackBits and WidthFor")
			scribble(l, 1)
			wantBytes(t, "PackBits, its argument and another result overwritten", second, want)
		}
	}
	l, check := spare(t, 3, 1, -1, mostPacked+1, 2)
	impl.PackBits(l, 31)
	impl.WidthFor(l)
	check("PackBits and WidthFor of invalid integers")
}

func TestUnpackBitsMemory(t *testing.T) {
	for w := -1; w <= mostWidth+1; w++ {
		for _, k := range []int{-1, 0, 1, 3, 8, 64, 65} {
			valid := w >= 0 && w <= mostWidth && k >= 0 && k <= 64
			want := packable(max(k, 0), max(w, 0))
			b, check := spare(t, 77, plainPack(want, max(w, 0))...)
			if !valid {
				want = nil
			}
			first, _ := impl.UnpackBits(b, w, k)
			second, ok := impl.UnpackBits(b, w, k)
			impl.BitAt(b, k)
			scribble(first, 99)
			check("UnpackBits and BitAt")
			scribble(b, 1)
			if !slices.Equal(second, want) || ok != valid {
				t.Errorf("UnpackBits for %d, %d, its argument and another result overwritten = %v, %v; want %v, %v", w, k, second, ok, want, valid)
			}
		}
	}
}

func TestBitsStayTheSame(t *testing.T) {
	want := []byte{213, 1}
	for range 3 {
		impl.PackBits([]int{8}, 3)
		impl.UnpackBits([]byte{213, 3}, 3, 3)
		impl.UnpackBits([]byte{255, 255}, 4, 4)
		wantPacked(t, []int{5, 2, 7}, 3, want)
		wantUnpacked(t, want, 3, 3, []int{5, 2, 7})
	}
}
