package tests

import (
	"bytes"
	"math"
	"slices"
	"strconv"
	"strings"
	"testing"

	"loop.example/g00496/impl"
)

const mostNum = 1000000000

// sampleNums returns integers of every encoded length: all small ones, and the neighbours of every
// power of 2 and of the range's ends.
func sampleNums() []int {
	var out []int
	for n := -20000; n <= 20000; n++ {
		out = append(out, n)
	}
	for p := 1 << 14; p < mostNum; p *= 2 {
		out = append(out, p-1, p, p+1, -p-1, -p, -p+1)
	}
	for k := range 100 {
		out = append(out, mostNum-k, k-mostNum)
	}
	for n := -mostNum; n <= mostNum; n += 999983 {
		out = append(out, n)
	}
	return out
}

func beyondNums() []int {
	return []int{
		mostNum + 1, -mostNum - 1, 2*mostNum + 1, -2*mostNum - 1,
		1 << 31, -1 << 31, 1 << 32, 1 << 35, -1 << 35, 1 << 62, -1 << 62,
		math.MaxInt, math.MaxInt - 1, math.MinInt, math.MinInt + 1,
	}
}

// plainNum encodes an integer in the document's words, apart from the program.
func plainNum(n int) []byte {
	u := 2 * n
	if n < 0 {
		u = -2*n - 1
	}
	digits := strconv.FormatInt(int64(u), 2)
	digits = strings.Repeat("0", (7-len(digits)%7)%7) + digits
	var out []byte
	for end := len(digits); end > 0; end -= 7 {
		group, _ := strconv.ParseInt(digits[end-7:end], 2, 64)
		if end > 7 {
			group += 128
		}
		out = append(out, byte(group))
	}
	return out
}

func plainNums(l ...int) []byte {
	out := plainNum(len(l))
	for _, n := range l {
		out = append(out, plainNum(n)...)
	}
	return out
}

func wantNum(t *testing.T, b []byte, at, want, wantNext int) {
	t.Helper()
	if n, next, ok := impl.GetNum(b, at); n != want || next != wantNext || !ok {
		t.Errorf("GetNum(%v, %d) = %d, %d, %v; want %d, %d, true", b, at, n, next, ok, want, wantNext)
	}
}

func wantNoNum(t *testing.T, b []byte, at int) {
	t.Helper()
	if n, next, ok := impl.GetNum(b, at); n != 0 || next != 0 || ok {
		t.Errorf("GetNum(%v, %d) = %d, %d, %v; want 0, 0, false", b, at, n, next, ok)
	}
}

func wantNums(t *testing.T, b []byte, at int, want []int, wantNext int) {
	t.Helper()
	if l, next, ok := impl.GetNums(b, at); !slices.Equal(l, want) || next != wantNext || !ok {
		t.Errorf("GetNums(%v, %d) = %v, %d, %v; want %v, %d, true", b, at, l, next, ok, want, wantNext)
	}
}

func wantNoNums(t *testing.T, b []byte, at int) {
	t.Helper()
	if l, next, ok := impl.GetNums(b, at); len(l) != 0 || next != 0 || ok {
		t.Errorf("GetNums(%v, %d) = %v, %d, %v; want none, 0, false", b, at, l, next, ok)
	}
}

func wantBytes(t *testing.T, what string, got, want []byte) {
	t.Helper()
	if !bytes.Equal(got, want) {
		t.Errorf("%s = %v, want %v", what, got, want)
	}
}

func TestMaxInt(t *testing.T) {
	if impl.MaxInt != mostNum {
		t.Error(impl.MaxInt)
	}
}

func TestZigZag(t *testing.T) {
	for _, c := range [][2]int{
		{0, 0}, {-1, 1}, {1, 2}, {-2, 3}, {2, 4}, {-3, 5}, {3, 6}, {-64, 127}, {64, 128},
		{mostNum - 1, 1999999998}, {mostNum, 2000000000}, {1 - mostNum, 1999999997}, {-mostNum, 1999999999},
	} {
		if u := impl.ZigZag(c[0]); u != c[1] {
			t.Errorf("ZigZag(%d) = %d, want %d", c[0], u, c[1])
		}
		if n := impl.ZagZig(c[1]); n != c[0] {
			t.Errorf("ZagZig(%d) = %d, want %d", c[1], n, c[0])
		}
	}
	for _, n := range sampleNums() {
		if back := impl.ZagZig(impl.ZigZag(n)); back != n {
			t.Errorf("ZagZig(ZigZag(%d)) = %d", n, back)
		}
	}
	for u := range 40000 {
		if back := impl.ZigZag(impl.ZagZig(u)); back != u {
			t.Errorf("ZigZag(ZagZig(%d)) = %d", u, back)
		}
	}
}

func TestZigZagBeyond(t *testing.T) {
	for _, n := range beyondNums() {
		if u := impl.ZigZag(n); u != 0 {
			t.Errorf("ZigZag(%d) = %d, want 0", n, u)
		}
	}
	for _, u := range []int{-1, -2, -3, -mostNum, 2*mostNum + 1, 2*mostNum + 2, 1 << 31, 1 << 32, math.MaxInt, math.MaxInt - 1, math.MinInt, math.MinInt + 1} {
		if n := impl.ZagZig(u); n != 0 {
			t.Errorf("ZagZig(%d) = %d, want 0", u, n)
		}
	}
}

func TestPutNumBytes(t *testing.T) {
	for _, c := range []struct {
		n    int
		want []byte
	}{
		{0, []byte{0}}, {-1, []byte{1}}, {1, []byte{2}}, {63, []byte{126}}, {-64, []byte{127}},
		{64, []byte{128, 1}}, {-65, []byte{129, 1}}, {150, []byte{172, 2}}, {-150, []byte{171, 2}},
		{8191, []byte{254, 127}}, {-8192, []byte{255, 127}}, {8192, []byte{128, 128, 1}},
		{mostNum, []byte{128, 168, 214, 185, 7}}, {-mostNum, []byte{255, 167, 214, 185, 7}},
	} {
		name := "PutNum of " + strconv.Itoa(c.n)
		wantBytes(t, name, impl.PutNum(nil, c.n), c.want)
		wantBytes(t, name+" after bytes", impl.PutNum([]byte{200, 0}, c.n), append([]byte{200, 0}, c.want...))
	}
}

func TestPutNumBeyond(t *testing.T) {
	for _, n := range beyondNums() {
		name := "PutNum of " + strconv.Itoa(n)
		wantBytes(t, name, impl.PutNum([]byte{7, 8, 9}, n), []byte{7, 8, 9})
		wantBytes(t, name, impl.PutNum([]byte{}, n), nil)
		wantBytes(t, name, impl.PutNum(nil, n), nil)
	}
}

func TestNumRoundTrip(t *testing.T) {
	for _, n := range sampleNums() {
		code := impl.PutNum(nil, n)
		wantBytes(t, "PutNum of "+strconv.Itoa(n), code, plainNum(n))
		wantNum(t, code, 0, n, len(code))
		for _, before := range [][]byte{{0}, {128}, {255, 255, 255}} {
			for _, after := range [][]byte{{}, {0}, {128, 0}, {255}} {
				b := append(impl.PutNum(before, n), after...)
				wantNum(t, b, len(before), n, len(before)+len(code))
			}
		}
		for end := range len(code) {
			wantNoNum(t, code[:end], 0)
		}
	}
}

func TestGetNumWithinCapacity(t *testing.T) {
	whole := []byte{9, 172, 2}
	wantNoNum(t, whole[:2], 1)
	wantNoNum(t, whole[:1], 1)
	wantNum(t, whole, 1, 150, 3)
}

func TestGetNumRejects(t *testing.T) {
	for _, b := range [][]byte{
		nil, {}, {128}, {255}, {128, 128}, {255, 255, 255, 255}, {128, 168, 214, 185},
		{128, 0}, {129, 0}, {255, 0}, {128, 128, 0}, {172, 130, 0}, {255, 255, 255, 255, 0}, {128, 128, 128, 128, 0},
		{128, 168, 214, 185, 7 + 128, 0}, {128, 128, 128, 128, 128, 0},
		{129, 168, 214, 185, 7}, {130, 168, 214, 185, 7}, {255, 255, 255, 255, 7}, {128, 128, 128, 128, 8},
		{128, 128, 128, 128, 16}, {128, 128, 128, 128, 127}, {255, 255, 255, 255, 127},
		{128, 128, 128, 128, 128, 1}, {130, 128, 128, 128, 128, 1}, {128, 168, 214, 185, 135, 1},
		{255, 255, 255, 255, 255, 255, 255, 255, 255, 1}, {128, 128, 128, 128, 128, 128, 128, 128, 128, 2},
		{130, 128, 128, 128, 128, 128, 128, 128, 128, 128, 128, 1}, bytes.Repeat([]byte{255}, 1000), bytes.Repeat([]byte{128}, 1000),
	} {
		wantNoNum(t, b, 0)
		wantNoNum(t, append([]byte{1, 1, 1}, b...), 3)
	}
}

func TestGetNumOffsets(t *testing.T) {
	b := []byte{2, 172, 2}
	for _, at := range []int{-1, -2, -3, math.MinInt, 3, 4, 100, math.MaxInt, math.MaxInt - 1} {
		wantNoNum(t, b, at)
	}
	wantNum(t, b, 0, 1, 1)
	wantNum(t, b, 1, 150, 3)
	wantNum(t, b, 2, 1, 3)
	wantNoNum(t, nil, 0)
	wantNoNum(t, nil, -1)
}

// wantOnlyEncodings checks that b is decoded exactly if a prefix of it is the encoding of an
// integer, found here by the value of the groups.
func wantOnlyEncodings(t *testing.T, b []byte) {
	t.Helper()
	u := uint64(0)
	for k := range min(len(b), 9) {
		u += uint64(b[k]&127) << (7 * k)
		if b[k] >= 128 {
			continue
		}
		if u > 2*mostNum {
			break
		}
		n := int(u / 2)
		if u%2 == 1 {
			n = -1 - n
		}
		if bytes.Equal(plainNum(n), b[:k+1]) {
			wantNum(t, b, 0, n, k+1)
			wantBytes(t, "the encoding of what was decoded", impl.PutNum(nil, n), b[:k+1])
			return
		}
		break
	}
	wantNoNum(t, b, 0)
}

func TestGetNumOnlyEncodings(t *testing.T) {
	for x := range 256 {
		wantOnlyEncodings(t, []byte{byte(x)})
		for y := range 256 {
			wantOnlyEncodings(t, []byte{byte(x), byte(y)})
			wantOnlyEncodings(t, []byte{128, 168, 214, byte(x), byte(y)})
			wantOnlyEncodings(t, []byte{byte(x), byte(y), 214, 185, 7})
			wantOnlyEncodings(t, []byte{255, 255, 255, 255, byte(x), byte(y)})
		}
	}
	some := []byte{0, 1, 2, 7, 8, 127, 128, 129, 168, 185, 214, 255}
	all := [][]byte{{}}
	for range 5 {
		var longer [][]byte
		for _, b := range all {
			for _, c := range some {
				longer = append(longer, append(slices.Clone(b), c))
			}
		}
		for _, b := range longer {
			wantOnlyEncodings(t, b)
		}
		all = longer
	}
}

// listOf returns k integers of both signs and of every encoded length.
func listOf(k int) []int {
	l := make([]int, k)
	for i := range l {
		l[i] = []int{0, -1, 1, 64, -65, 150, -8193, 1 << 20, -mostNum, mostNum}[i%10]
	}
	return l
}

func TestPutNumsBytes(t *testing.T) {
	wantBytes(t, "no integers", impl.PutNums(nil, nil), []byte{0})
	wantBytes(t, "no integers", impl.PutNums([]byte{5}, []int{}), []byte{5, 0})
	wantBytes(t, "three integers", impl.PutNums(nil, []int{1, -1, 0}), []byte{6, 2, 1, 0})
	wantBytes(t, "wide integers", impl.PutNums([]byte{9}, []int{150, -65}), []byte{9, 4, 172, 2, 129, 1})
	wantBytes(t, "the ends", impl.PutNums(nil, []int{mostNum, -mostNum}), []byte{4, 128, 168, 214, 185, 7, 255, 167, 214, 185, 7})
	for _, k := range []int{0, 1, 2, 63, 64, 65, 100, 10000} {
		l := listOf(k)
		wantBytes(t, strconv.Itoa(k)+" integers", impl.PutNums([]byte{1, 2}, l), append([]byte{1, 2}, plainNums(l...)...))
	}
}

func TestPutNumsBeyond(t *testing.T) {
	for _, n := range beyondNums() {
		for _, l := range [][]int{{n}, {n, 0}, {0, n}, {1, n, -1}, append(listOf(64), n), {n, n}} {
			name := "PutNums with " + strconv.Itoa(n)
			wantBytes(t, name, impl.PutNums([]byte{7, 8, 9}, l), []byte{7, 8, 9})
			wantBytes(t, name, impl.PutNums(nil, l), nil)
		}
	}
}

func TestNumsRoundTrip(t *testing.T) {
	for k := range 65 {
		l := listOf(k)
		code := impl.PutNums(nil, l)
		wantNums(t, code, 0, l, len(code))
		for _, before := range [][]byte{{0}, {128}, {255, 255, 255}} {
			for _, after := range [][]byte{{}, {0}, {128, 0}, {255}} {
				b := append(impl.PutNums(before, l), after...)
				wantNums(t, b, len(before), l, len(before)+len(code))
			}
		}
		for end := range len(code) {
			wantNoNums(t, code[:end], 0)
		}
	}
}

func TestGetNumsTooMany(t *testing.T) {
	for _, k := range []int{65, 66, 100, 1000} {
		wantNoNums(t, impl.PutNums(nil, listOf(k)), 0)
		wantNoNums(t, impl.PutNums(nil, make([]int, k)), 0)
	}
	wantNoNums(t, append(plainNum(mostNum), make([]byte, 200)...), 0)
}

func TestGetNumsRejects(t *testing.T) {
	zeros := make([]byte, 100)
	for _, b := range [][]byte{
		nil, {}, {128}, {128, 0}, {2}, {2, 128}, {2, 128, 0}, {4, 0}, {4, 0, 130, 0}, {6, 2, 1, 200},
		append([]byte{1}, zeros...), append([]byte{3}, zeros...), append([]byte{127}, zeros...),
		append(plainNum(-64), zeros...), append(plainNum(-mostNum), zeros...),
		append([]byte{130, 0}, zeros...), append([]byte{128, 129, 0}, zeros...),
		{2, 129, 168, 214, 185, 7}, {4, 0, 255, 255, 255, 255, 127}, {4, 129, 168, 214, 185, 7, 0},
		{129, 168, 214, 185, 7, 0, 0},
	} {
		wantNoNums(t, b, 0)
		wantNoNums(t, append([]byte{0, 0}, b...), 2)
	}
}

func TestGetNumsOffsets(t *testing.T) {
	b := []byte{4, 2, 1, 0}
	for _, at := range []int{-1, -4, math.MinInt, 4, 5, 100, math.MaxInt} {
		wantNoNums(t, b, at)
	}
	wantNums(t, b, 0, []int{1, -1}, 3)
	wantNums(t, b, 1, []int{-1}, 3)
	wantNoNums(t, b, 2)
	wantNums(t, b, 3, nil, 4)
	wantNoNums(t, nil, 0)
	wantNoNums(t, b[:2], 0)
}

func TestNumText(t *testing.T) {
	for _, c := range []struct {
		n    int
		want string
	}{
		{0, "0"}, {7, "7"}, {-7, "-7"}, {10, "10"}, {-10, "-10"}, {105, "105"},
		{mostNum, "1000000000"}, {-mostNum, "-1000000000"}, {mostNum + 1, "1000000001"}, {-mostNum - 1, "-1000000001"},
		{math.MaxInt, "9223372036854775807"}, {math.MinInt, "-9223372036854775808"},
	} {
		if s := impl.NumText(c.n); s != c.want {
			t.Errorf("NumText(%d) = %q, want %q", c.n, s, c.want)
		}
	}
}

func TestParseNum(t *testing.T) {
	for _, n := range sampleNums() {
		if back, ok := impl.ParseNum(impl.NumText(n)); back != n || !ok {
			t.Errorf("ParseNum(NumText(%d)) = %d, %v", n, back, ok)
		}
	}
}

func TestParseNumRejects(t *testing.T) {
	wrong := []string{
		"", "-", "+", "--1", "-0", "+0", "+1", "-+1", "+-1", "00", "01", "-01", "007", "-007", "0000000000", "00000000001", "-0000000001",
		" ", " 1", "1 ", "- 1", "1 2", "1\n", "\t1", "1\x00", "a", "1a", "a1", "x1", "0x1", "0b1", "0o1", "1_0", "1e3", "1.0", "1,0", "1-", "1-1",
		"\u0661", "\uff11", "\u22121", "\xff", "1000000001", "-1000000001", "2000000000", "9999999999", "-9999999999", "10000000000",
		"4294967297", "9223372036854775807", "-9223372036854775808", "9223372036854775808", "18446744073709551617",
		"-18446744073709551617", strings.Repeat("0", 1000), strings.Repeat("9", 100000), "-" + strings.Repeat("1", 1000),
	}
	for _, n := range beyondNums() {
		wrong = append(wrong, strconv.Itoa(n))
	}
	for _, s := range wrong {
		if n, ok := impl.ParseNum(s); n != 0 || ok {
			t.Errorf("ParseNum(%.40q) = %d, %v; want 0, false", s, n, ok)
		}
	}
}

func TestParseNumOnlyTexts(t *testing.T) {
	const marks = "019-+ "
	texts := []string{""}
	for range 5 {
		var longer []string
		for _, s := range texts {
			for _, c := range marks {
				longer = append(longer, s+string(c))
			}
		}
		for _, s := range longer {
			n, err := strconv.Atoi(s)
			want := err == nil && strconv.Itoa(n) == s
			if got, ok := impl.ParseNum(s); ok != want || ok && got != n || !ok && got != 0 {
				t.Errorf("ParseNum(%q) = %d, %v", s, got, ok)
			}
		}
		texts = longer
	}
}

// argumentBytes are the byte slices whose memory the tests below watch.
func argumentBytes() [][]byte {
	return [][]byte{{}, {1}, {128, 168, 214, 185, 7}, {6, 2, 1, 0}, bytes.Repeat([]byte{3}, 100)}
}

// wantOwnBytes checks that put, which appends tail, neither writes into its argument nor returns a
// part of it.
func wantOwnBytes(t *testing.T, what string, tail []byte, put func([]byte) []byte) {
	t.Helper()
	for _, l := range argumentBytes() {
		b, check := spare(t, 77, l...)
		want := append(slices.Clone(l), tail...)
		first, second := put(b), put(b)
		check(what)
		scribble(first, 99)
		check(what + ", its result overwritten")
		wantBytes(t, what+", another result overwritten", second, want)
		third := put(b)
		scribble(b, 55)
		wantBytes(t, what+", its argument overwritten", third, want)
	}
}

func TestPutNumMemory(t *testing.T) {
	for _, n := range []int{0, 1, -1, 150, mostNum, -mostNum} {
		wantOwnBytes(t, "PutNum", plainNum(n), func(b []byte) []byte { return impl.PutNum(b, n) })
	}
	for _, n := range beyondNums() {
		wantOwnBytes(t, "PutNum beyond", nil, func(b []byte) []byte { return impl.PutNum(b, n) })
	}
}

func TestPutNumsMemory(t *testing.T) {
	for _, k := range []int{0, 1, 3, 64, 65} {
		l, check := spare(t, 4444, listOf(k)...)
		wantOwnBytes(t, "PutNums", plainNums(l...), func(b []byte) []byte { return impl.PutNums(b, l) })
		check("the list of PutNums")
	}
	l, check := spare(t, 4444, 1, mostNum+1, 2)
	wantOwnBytes(t, "PutNums beyond", nil, func(b []byte) []byte { return impl.PutNums(b, l) })
	check("the list of PutNums beyond")
}

func TestGetMemory(t *testing.T) {
	for _, l := range argumentBytes() {
		b, check := spare(t, 0, l...)
		for at := -1; at <= len(b)+1; at++ {
			impl.GetNum(b, at)
			impl.GetNums(b, at)
		}
		check("GetNum and GetNums")
	}
	b := impl.PutNums(nil, listOf(10))
	first, _, _ := impl.GetNums(b, 0)
	second, _, _ := impl.GetNums(b, 0)
	scribble(first, 99)
	scribble(b, 99)
	if !slices.Equal(second, listOf(10)) {
		t.Error("a list shares memory with another list or with the bytes:", second)
	}
}

func TestNumsStayTheSame(t *testing.T) {
	want := impl.PutNums(nil, []int{1, -1})
	for range 3 {
		impl.PutNums(want, []int{mostNum + 1})
		impl.GetNum([]byte{255}, 0)
		impl.ParseNum("-0")
		wantBytes(t, "PutNums again", impl.PutNums(nil, []int{1, -1}), want)
	}
}

func TestPutNumsTooMany(t *testing.T) {
	l := zeroNums(t, mostNum+1)
	// Only the length is printed: what a wrong PutNums returns here has a gigabyte.
	if b := impl.PutNums([]byte{7, 8, 9}, l); !bytes.Equal(b, []byte{7, 8, 9}) {
		t.Errorf("PutNums of a list that is too long has %d bytes, want the 3 of its argument", len(b))
	}
}
