package tests

import (
	"bytes"
	"math"
	"slices"
	"strconv"
	"strings"
	"testing"

	"loop.example/g00496/impl"
)

const mostVals = 64

func bothTypes() []int {
	return []int{tyInt, tyText}
}

func intsOf(l ...int) []impl.Val {
	var out []impl.Val
	for _, n := range l {
		out = append(out, intOf(n))
	}
	return out
}

func textsOf(l ...string) []impl.Val {
	var out []impl.Val
	for _, s := range l {
		out = append(out, textOf(s))
	}
	return out
}

// someVals returns k valid values of this type, of every encoded length.
func someVals(ty, k int) []impl.Val {
	texts := []string{"", "a", "09", "red", "a0z9", "12345", "seven7", "zzzzzz", "0"}
	var out []impl.Val
	for i, n := range listOf(k) {
		if ty == tyInt {
			out = append(out, intOf(n))
		} else {
			out = append(out, textOf(texts[i%len(texts)]))
		}
	}
	return out
}

// plainCode encodes a valid value in the document's words, apart from the program.
func plainCode(v impl.Val) []byte {
	if v.Ty == tyInt {
		return plainNum(v.N)
	}
	return []byte(string(rune(len(v.S))) + v.S)
}

func plainCodes(l ...impl.Val) []byte {
	out := []byte{}
	for _, v := range l {
		out = append(out, plainCode(v)...)
	}
	return out
}

// plainGet looks for the value whose plainCode is a prefix of b, and returns its length.
func plainGet(b []byte, ty int) (impl.Val, int, bool) {
	u := 0
	for k := range min(len(b), 7) {
		v := impl.Val{}
		if ty == tyInt {
			u += int(b[k]&127) << (7 * k)
			v = intOf(u / 2)
			if u%2 == 1 {
				v = intOf(-(u + 1) / 2)
			}
		} else {
			v = textOf(string(b[1 : k+1]))
		}
		if fitsPlainly([]int{ty}, []impl.Val{v}) && bytes.Equal(plainCode(v), b[:k+1]) {
			return v, k + 1, true
		}
	}
	return impl.Val{}, 0, false
}

// plainDecode splits b into values from its start to its end.
func plainDecode(b []byte, ty int) ([]impl.Val, bool) {
	var out []impl.Val
	for len(b) > 0 {
		v, k, ok := plainGet(b, ty)
		if !ok {
			return nil, false
		}
		out, b = append(out, v), b[k:]
	}
	return out, true
}

func wantGot(t *testing.T, b []byte, at int, want impl.Val, wantNext int) {
	t.Helper()
	if v, next, ok := impl.GetVal(b, at, want.Ty); v != want || next != wantNext || !ok {
		t.Errorf("GetVal(%v, %d, %d) = %v, %d, %v; want %v, %d, true", b, at, want.Ty, v, next, ok, want, wantNext)
	}
}

func wantNotGot(t *testing.T, b []byte, at, ty int) {
	t.Helper()
	if v, next, ok := impl.GetVal(b, at, ty); v != (impl.Val{}) || next != 0 || ok {
		t.Errorf("GetVal(%v, %d, %d) = %v, %d, %v; want the zero Val, 0, false", b, at, ty, v, next, ok)
	}
}

func wantDecoded(t *testing.T, b []byte, ty int, want []impl.Val) {
	t.Helper()
	if l, ok := impl.DecPlain(b, ty, len(want)); !slices.Equal(l, want) || !ok {
		t.Errorf("DecPlain(%v, %d, %d) = %v, %v; want %v, true", b, ty, len(want), l, ok, want)
	}
}

func wantNotDecoded(t *testing.T, b []byte, ty, k int) {
	t.Helper()
	if l, ok := impl.DecPlain(b, ty, k); len(l) != 0 || ok {
		t.Errorf("DecPlain(%v, %d, %d) = %v, %v; want none, false", b, ty, k, l, ok)
	}
}

func wantType(t *testing.T, l []impl.Val, want int) {
	t.Helper()
	if got := impl.TypeOf(l); got != want {
		t.Errorf("TypeOf of %d values %v = %d, want %d", len(l), l[:min(len(l), 5)], got, want)
	}
	wantBytes(t, "EncPlain of "+strconv.Itoa(len(l))+" values", impl.EncPlain(l), encodedIf(want != 0, l))
}

func encodedIf(valid bool, l []impl.Val) []byte {
	if !valid {
		return nil
	}
	return plainCodes(l...)
}

func TestMaxVals(t *testing.T) {
	if impl.MaxVals != mostVals {
		t.Error(impl.MaxVals)
	}
}

func TestTypeOfCount(t *testing.T) {
	wantType(t, nil, 0)
	wantType(t, []impl.Val{}, 0)
	for _, ty := range bothTypes() {
		for k := 1; k <= mostVals; k++ {
			wantType(t, someVals(ty, k), ty)
		}
		for _, k := range []int{mostVals + 1, mostVals + 2, 2 * mostVals, 256, 257, 1000, 1<<16 + 1} {
			wantType(t, someVals(ty, k), 0)
		}
	}
}

// TestTypeOfOneValue puts one other value among valid ones: in the first place, in the last one and
// between them.
func TestTypeOfOneValue(t *testing.T) {
	for _, ty := range bothTypes() {
		others := []impl.Val{
			valOf(3-ty, 0), {Ty: 3 - ty}, {}, {Ty: 3}, {Ty: -1}, {Ty: ty + 1<<8}, {Ty: ty + 1<<32}, {Ty: ty, N: 4, S: "a"},
			{Ty: ty, N: mostNum + 1}, {Ty: ty, N: -mostNum - 1}, {Ty: ty, S: "seven77"}, {Ty: ty, S: "A"}, {Ty: ty, S: "é"},
		}
		for _, k := range []int{1, 2, 3, 4, 33, mostVals} {
			for _, other := range others {
				for at := range k {
					l := someVals(ty, k)
					l[at] = other
					wantType(t, l, fittingType(l))
				}
			}
		}
	}
}

// fittingType is the type of a list by the check of layer 4's tests, apart from the program.
func fittingType(l []impl.Val) int {
	for _, ty := range bothTypes() {
		if len(l) >= 1 && len(l) <= mostVals && fitsPlainly(slices.Repeat([]int{ty}, len(l)), l) {
			return ty
		}
	}
	return 0
}

func TestTypeOfAllShort(t *testing.T) {
	for _, l := range listsOf(4, intOf(5), intOf(-5), textOf("a"), textOf(""), impl.Val{Ty: tyInt, S: "a"}, impl.Val{Ty: tyText, N: 1}, impl.Val{}, impl.Val{Ty: 3}) {
		wantType(t, l, fittingType(l))
	}
}

func TestTypeOfTable(t *testing.T) {
	for _, c := range []struct {
		l    []impl.Val
		want int
	}{
		{intsOf(0), 1}, {textsOf(""), 2}, {intsOf(mostNum, -mostNum), 1}, {textsOf("seven7", "", "0"), 2},
		{[]impl.Val{intOf(1), textOf("a")}, 0}, {[]impl.Val{textOf("a"), intOf(1)}, 0}, {[]impl.Val{intOf(1), intOf(1), textOf("")}, 0},
		{intsOf(mostNum+1, 0), 0}, {intsOf(0, mostNum+1), 0}, {intsOf(-mostNum-1, 0), 0}, {textsOf("seven77", "a"), 0}, {textsOf("a", "seven77"), 0},
		{[]impl.Val{{}}, 0}, {[]impl.Val{{}, {}}, 0}, {[]impl.Val{{Ty: 3}}, 0}, {[]impl.Val{{Ty: 3}, {Ty: 3}}, 0}, {[]impl.Val{{Ty: -1}}, 0},
	} {
		wantType(t, c.l, c.want)
	}
}

func TestTypeOfWithinCapacity(t *testing.T) {
	l := append(someVals(tyInt, mostVals), textOf("a"))
	wantType(t, l[:0], 0)
	wantType(t, l[:1], tyInt)
	wantType(t, l[:mostVals], tyInt)
	wantType(t, l[1:], 0)
	wantType(t, l[mostVals:], tyText)
}

func TestPutValBytes(t *testing.T) {
	for _, c := range []struct {
		v    impl.Val
		want string
	}{
		{intOf(0), "\x00"}, {intOf(-1), "\x01"}, {intOf(1), "\x02"}, {intOf(-70), "\x8b\x01"}, {intOf(150), "\xac\x02"},
		{intOf(mostNum), "\x80\xa8\xd6\xb9\x07"}, {intOf(-mostNum), "\xff\xa7\xd6\xb9\x07"},
		{textOf(""), "\x00"}, {textOf("c"), "\x01c"}, {textOf("ab"), "\x02ab"}, {textOf("red"), "\x03red"}, {textOf("007"), "\x03007"},
		{textOf("12345"), "\x0512345"}, {textOf("seven7"), "\x06seven7"}, {textOf("zzzzzz"), "\x06zzzzzz"},
	} {
		name := "PutVal of " + impl.ValText(c.v)
		wantBytes(t, name, impl.PutVal(nil, c.v), []byte(c.want))
		wantBytes(t, name, impl.PutVal([]byte{}, c.v), []byte(c.want))
		wantBytes(t, name+" after bytes", impl.PutVal([]byte{200, 0, 6}, c.v), []byte("\xc8\x00\x06"+c.want))
		wantBytes(t, "EncPlain of "+impl.ValText(c.v), impl.EncPlain([]impl.Val{c.v}), []byte(c.want))
		wantBytes(t, "EncPlain of twice "+impl.ValText(c.v), impl.EncPlain([]impl.Val{c.v, c.v}), []byte(c.want+c.want))
		wantGot(t, []byte(c.want), 0, c.v, len(c.want))
	}
}

func TestPutValInvalid(t *testing.T) {
	for _, v := range append(wrongVals(), impl.Val{}) {
		wantBytes(t, "PutVal of an invalid value", impl.PutVal([]byte{7, 8, 9}, v), []byte{7, 8, 9})
		wantBytes(t, "PutVal of an invalid value", impl.PutVal(nil, v), nil)
		for _, l := range [][]impl.Val{{v}, {v, v}, {v, intOf(1)}, {intOf(1), v}, {textOf("a"), v}, {v, textOf("a")}, {textOf(""), v, textOf("")}} {
			if b := impl.EncPlain(l); len(b) != 0 || impl.TypeOf(l) != 0 {
				t.Errorf("with Ty %d, N %d, S %.40q: EncPlain has %d bytes, TypeOf is %d", v.Ty, v.N, v.S, len(b), impl.TypeOf(l))
			}
		}
	}
}

func TestValCodeRoundTrip(t *testing.T) {
	for _, v := range goodVals() {
		code := impl.PutVal(nil, v)
		wantBytes(t, "PutVal of "+impl.ValText(v), code, plainCode(v))
		wantDecoded(t, code, v.Ty, []impl.Val{v})
		for _, before := range [][]byte{{}, {0}, {6}, {128, 255, 1}} {
			for _, after := range [][]byte{{}, {0}, {'a'}, {128, 0}, {255}} {
				b := append(impl.PutVal(before, v), after...)
				wantGot(t, b, len(before), v, len(before)+len(code))
			}
		}
		for end := range len(code) {
			wantNotGot(t, code[:end], 0, v.Ty)
			wantNotDecoded(t, code[:end], v.Ty, 1)
		}
	}
}

// TestGetTextCutOff has at least the given length of a string and fewer bytes, here and behind other
// bytes, and with the missing bytes in the capacity.
func TestGetTextCutOff(t *testing.T) {
	for length := 1; length <= 255; length++ {
		whole := append([]byte{byte(length)}, strings.Repeat("a", length)...)
		for end := range len(whole) {
			wantNotGot(t, whole[:end], 0, tyText)
			wantNotGot(t, slices.Clone(whole[:end]), 0, tyText)
			wantNotGot(t, append([]byte{0, 1, 'b'}, whole[:end]...), 3, tyText)
			wantNotDecoded(t, whole[:end], tyText, 1)
			wantNotDecoded(t, append([]byte{0, 1, 'b'}, whole[:end]...), tyText, 3)
		}
		if length <= 6 {
			wantGot(t, whole, 0, textOf(string(whole[1:])), length+1)
		} else {
			wantNotGot(t, whole, 0, tyText)
			wantNotGot(t, append(whole, whole...), 0, tyText)
		}
	}
}

func TestGetTextTooLong(t *testing.T) {
	for length := 7; length <= 255; length++ {
		for _, more := range []int{0, 1, 6, 7, length - 1, length, length + 1, 300} {
			wantNotGot(t, append([]byte{byte(length)}, strings.Repeat("7", more)...), 0, tyText)
			wantNotDecoded(t, append([]byte{byte(length)}, strings.Repeat("7", more)...), tyText, 1)
		}
	}
	wantGot(t, []byte("\x06777777"), 0, textOf("777777"), 7)
	wantGot(t, []byte("\x067777777"), 0, textOf("777777"), 7)
	wantNotDecoded(t, []byte("\x067777777"), tyText, 1)
}

func TestGetTextInvalid(t *testing.T) {
	for _, s := range wrongTexts() {
		if len(s) > 255 {
			continue
		}
		b := append([]byte{byte(len(s))}, s...)
		wantNotGot(t, b, 0, tyText)
		wantNotGot(t, append([]byte{1, 'a'}, b...), 2, tyText)
		wantNotDecoded(t, b, tyText, 1)
		wantNotDecoded(t, append([]byte{1, 'a'}, b...), tyText, 2)
		wantNotDecoded(t, append(slices.Clone(b), 1, 'a'), tyText, 2)
	}
}

// TestGetTextOfOtherLength gives a string the length of another one: fewer characters are decoded, and
// more are missing.
func TestGetTextOfOtherLength(t *testing.T) {
	for have := range 7 {
		s := "seven7"[:have]
		for length := range 256 {
			b := append([]byte{byte(length)}, s...)
			if length <= have {
				wantGot(t, b, 0, textOf(s[:length]), length+1)
			} else {
				wantNotGot(t, b, 0, tyText)
			}
		}
	}
}

// TestGetTextEndsWithItsBytes has invalid characters before and behind a string, which are not its own.
func TestGetTextEndsWithItsBytes(t *testing.T) {
	for _, s := range goodTexts() {
		for c := range 256 {
			b := append(append([]byte{byte(c), byte(len(s))}, s...), byte(c))
			wantGot(t, b, 1, textOf(s), len(s)+2)
		}
	}
}

func TestGetIntRejects(t *testing.T) {
	for _, b := range [][]byte{
		nil, {}, {128}, {255}, {128, 128}, {255, 255, 255, 255}, {128, 168, 214, 185},
		{128, 0}, {129, 0}, {255, 0}, {128, 128, 0}, {172, 130, 0}, {128, 128, 128, 128, 0}, {128, 168, 214, 185, 135, 0},
		{129, 168, 214, 185, 7}, {130, 168, 214, 185, 7}, {255, 255, 255, 255, 7}, {128, 128, 128, 128, 8}, {255, 255, 255, 255, 127},
		{128, 128, 128, 128, 128, 1}, {130, 128, 128, 128, 128, 1}, {255, 255, 255, 255, 255, 255, 255, 255, 255, 1},
		{128, 128, 128, 128, 128, 128, 128, 128, 128, 2}, bytes.Repeat([]byte{255}, 100), bytes.Repeat([]byte{128}, 100),
	} {
		wantNotGot(t, b, 0, tyInt)
		wantNotGot(t, append([]byte{1, 1}, b...), 2, tyInt)
		wantNotDecoded(t, b, tyInt, 1)
		wantNotDecoded(t, append([]byte{1, 1}, b...), tyInt, 3)
	}
}

func TestGetValOffsets(t *testing.T) {
	b := []byte{3, 'r', 'e', 'd', 0, 1, '7'}
	for _, ty := range bothTypes() {
		for _, at := range []int{-1, -2, -7, -8, -1 << 32, math.MinInt, math.MinInt + 1, 7, 8, 9, 100, 1 << 31, 1 << 32, 1<<32 + 1, math.MaxInt - 7, math.MaxInt - 6, math.MaxInt - 1, math.MaxInt} {
			wantNotGot(t, b, at, ty)
			wantNotGot(t, b[:0], at, ty)
		}
		for _, at := range []int{-1, 0, 1, math.MaxInt, math.MinInt} {
			wantNotGot(t, nil, at, ty)
			wantNotGot(t, []byte{}, at, ty)
		}
	}
	wantGot(t, b, 0, textOf("red"), 4)
	wantGot(t, b, 4, textOf(""), 5)
	wantGot(t, b, 5, textOf("7"), 7)
	for _, at := range []int{1, 2, 3, 6} {
		wantNotGot(t, b, at, tyText)
	}
	for at, c := range b {
		wantGot(t, b, at, intOf(impl.ZagZig(int(c))), at+1)
	}
}

func TestGetValTypes(t *testing.T) {
	for _, b := range [][]byte{nil, {}, {0}, {2}, {1, 'a'}, {3, 'r', 'e', 'd'}, {172, 2}, bytes.Repeat([]byte{0}, 100)} {
		for _, ty := range wrongTypes() {
			for at := -1; at <= len(b)+1; at++ {
				wantNotGot(t, b, at, ty)
			}
			for k := range mostVals + 2 {
				wantNotDecoded(t, b, ty, k)
			}
		}
	}
}

// wantPlainGot checks that b is decoded exactly if it begins with the encoding of a value, and that it
// is decoded as a column exactly if it consists of encodings.
func wantPlainGot(t *testing.T, b []byte) {
	t.Helper()
	for _, ty := range bothTypes() {
		if v, next, ok := plainGet(b, ty); ok {
			wantGot(t, b, 0, v, next)
			wantBytes(t, "the encoding of what was decoded", impl.PutVal(nil, v), b[:next])
		} else {
			wantNotGot(t, b, 0, ty)
		}
		want, ok := plainDecode(b, ty)
		for k := range 8 {
			if !ok || k == 0 || k != len(want) {
				wantNotDecoded(t, b, ty, k)
				continue
			}
			wantDecoded(t, b, ty, want)
			wantBytes(t, "the encoding of what was decoded", impl.EncPlain(want), b)
		}
	}
}

func TestDecodedAreEncodings(t *testing.T) {
	wantPlainGot(t, nil)
	for x := range 256 {
		wantPlainGot(t, []byte{byte(x)})
		for y := range 256 {
			wantPlainGot(t, []byte{byte(x), byte(y)})
			wantPlainGot(t, []byte{2, byte(x), byte(y)})
			wantPlainGot(t, []byte{0, byte(x), 'a', byte(y)})
			wantPlainGot(t, []byte{128, 168, 214, byte(x), byte(y)})
		}
	}
	for _, b := range slices.Concat(listsOf[byte](4, 0, 1, 2, 6, 7, '0', 'z', 'A', 128, 255), listsOf[byte](7, 0, 2, 'a', 128)) {
		wantPlainGot(t, b)
	}
}

func TestNearEncodings(t *testing.T) {
	for _, l := range [][]impl.Val{
		intsOf(0), intsOf(mostNum), intsOf(1, -70), intsOf(-mostNum, 64, -1), textsOf(""), textsOf("a"), textsOf("seven7"), textsOf("ab", "", "c"), textsOf("", "zzzzzz"),
	} {
		for _, near := range nearTexts(string(impl.EncPlain(l))) {
			wantPlainGot(t, []byte(near))
		}
	}
}

func TestPlainRoundTrip(t *testing.T) {
	for _, ty := range bothTypes() {
		for k := 1; k <= mostVals; k++ {
			l := someVals(ty, k)
			b := impl.EncPlain(l)
			wantBytes(t, "EncPlain of "+strconv.Itoa(k)+" values", b, plainCodes(l...))
			wantDecoded(t, b, ty, l)
			for _, other := range []int{k - 1, k + 1, 0, -k, -1, mostVals + 1, k + mostVals, k + 1<<32, k - 1<<32, math.MaxInt, math.MinInt} {
				wantNotDecoded(t, b, ty, other)
			}
			for end := range len(b) {
				wantNotDecoded(t, b[:end], ty, k)
			}
			for c := range 256 {
				wantNotDecoded(t, append(slices.Clone(b), byte(c)), ty, k)
			}
			wantNotDecoded(t, append(slices.Clone(b), plainCode(valOf(ty, 0))...), ty, k)
			wantNotDecoded(t, append(slices.Clone(b), b...), ty, k)
			wantNotDecoded(t, b[1:], ty, k)
		}
	}
}

func TestPlainAllShort(t *testing.T) {
	for _, values := range [][]impl.Val{intsOf(0, -1, 64, mostNum, -mostNum), textsOf("", "a", "09", "red", "seven7")} {
		for _, l := range listsOf(4, values...)[1:] {
			b := impl.EncPlain(l)
			wantBytes(t, "EncPlain of a short list", b, plainCodes(l...))
			wantDecoded(t, b, l[0].Ty, l)
		}
	}
}

func TestDecPlainTable(t *testing.T) {
	wantDecoded(t, []byte("\x02ab\x00\x01c"), tyText, textsOf("ab", "", "c"))
	wantDecoded(t, []byte("\x02\x8b\x01"), tyInt, intsOf(1, -70))
	wantNotDecoded(t, []byte("\x02ab\x00\x01c"), tyText, 2)
	wantNotDecoded(t, []byte("\x02ab\x00\x01c"), tyText, 4)
	wantNotDecoded(t, []byte("\x02ab\x00\x01"), tyText, 3)
	wantNotDecoded(t, []byte("\x02ab\x00\x01c\x00"), tyText, 3)
	wantNotDecoded(t, []byte("\x02ab\x00\x01C"), tyText, 3)
	wantNotDecoded(t, []byte("\x02\x8b"), tyInt, 2)
	wantNotDecoded(t, []byte("\x02\x8b\x00"), tyInt, 2)
}

func TestDecPlainNoBytes(t *testing.T) {
	for _, ty := range append(bothTypes(), wrongTypes()...) {
		for _, k := range []int{-1, 0, 1, 2, mostVals, mostVals + 1, math.MinInt, math.MaxInt} {
			wantNotDecoded(t, nil, ty, k)
			wantNotDecoded(t, []byte{}, ty, k)
		}
	}
}

// TestDecPlainTooMany has the right number of values, which is too large.
func TestDecPlainTooMany(t *testing.T) {
	for _, ty := range bothTypes() {
		wantDecoded(t, plainCodes(someVals(ty, mostVals)...), ty, someVals(ty, mostVals))
		wantDecoded(t, make([]byte, mostVals), ty, slices.Repeat([]impl.Val{{Ty: ty}}, mostVals))
		for _, k := range []int{mostVals + 1, mostVals + 2, 100, 256 + 1, 1000, 1<<16 + 1} {
			wantNotDecoded(t, plainCodes(someVals(ty, k)...), ty, k)
			wantNotDecoded(t, make([]byte, k), ty, k)
			wantNotDecoded(t, make([]byte, k), ty, mostVals)
		}
	}
}

// TestDecPlainOtherType decodes encodings of one type as the other: what comes out, if anything, is
// another list with the same encoding.
func TestDecPlainOtherType(t *testing.T) {
	for _, l := range [][]impl.Val{intsOf(1), intsOf(-70), intsOf(1, 'a'), intsOf(mostNum), intsOf(3, 4), someVals(tyInt, mostVals)} {
		for k := range mostVals + 2 {
			wantNotDecoded(t, plainCodes(l...), tyText, k)
		}
	}
	wantDecoded(t, impl.EncPlain(textsOf("a")), tyInt, intsOf(-1, -49))
	wantNotDecoded(t, impl.EncPlain(textsOf("a")), tyInt, 1)
	wantDecoded(t, impl.EncPlain(textsOf("")), tyInt, intsOf(0))
	wantDecoded(t, impl.EncPlain(intsOf(0, 0)), tyText, textsOf("", ""))
}

func TestDecPlainWithinCapacity(t *testing.T) {
	whole := []byte("\x02ab\x00\x01c")
	wantDecoded(t, whole[:3], tyText, textsOf("ab"))
	wantDecoded(t, whole[:4], tyText, textsOf("ab", ""))
	wantNotDecoded(t, whole[:3], tyText, 2)
	wantNotDecoded(t, whole[:3], tyText, 3)
	wantNotDecoded(t, whole[:2], tyText, 1)
	wantNotDecoded(t, whole[:0], tyText, 1)
	wantNotDecoded(t, []byte{172, 2}[:1], tyInt, 1)
}

func TestLeastMost(t *testing.T) {
	l := []int{math.MinInt, math.MinInt + 1, -mostNum - 1, -mostNum, -70, -2, -1, 0, 1, 2, 70, mostNum, mostNum + 1, 1 << 32, math.MaxInt - 1, math.MaxInt}
	for i, a := range l {
		for k, b := range l {
			if least, most := impl.Least(a, b), impl.Most(a, b); least != l[min(i, k)] || most != l[max(i, k)] {
				t.Errorf("Least(%d, %d) = %d and Most = %d, want %d and %d", a, b, least, most, l[min(i, k)], l[max(i, k)])
			}
		}
	}
	if impl.Least(2, -1) != -1 || impl.Most(2, -1) != 2 || impl.Least(-3, -2) != -3 || impl.Most(-3, -2) != -2 || impl.Least(5, 5) != 5 || impl.Most(-5, -5) != -5 {
		t.Error("Least and Most of small integers")
	}
}

func TestPutValMemory(t *testing.T) {
	for _, v := range []impl.Val{intOf(0), intOf(-1), intOf(150), intOf(mostNum), intOf(-mostNum), textOf(""), textOf("a"), textOf("12345"), textOf("seven7")} {
		wantOwnBytes(t, "PutVal", plainCode(v), func(b []byte) []byte { return impl.PutVal(b, v) })
	}
	for _, v := range []impl.Val{{}, {Ty: 3}, intOf(mostNum + 1), textOf("seven77"), textOf("A"), {Ty: tyInt, N: 1, S: "a"}, {Ty: tyText, N: 1, S: "a"}} {
		wantOwnBytes(t, "PutVal of an invalid value", nil, func(b []byte) []byte { return impl.PutVal(b, v) })
	}
}

func TestEncPlainMemory(t *testing.T) {
	mark := impl.Val{Ty: 7, N: 77, S: "mark"}
	for _, values := range [][]impl.Val{{}, intsOf(1), textsOf("red", "", "a"), {intOf(1), textOf("a")}, {{}}, someVals(tyInt, mostVals), someVals(tyText, mostVals), someVals(tyText, mostVals+1)} {
		want := encodedIf(fittingType(values) != 0, values)
		l, check := spare(t, mark, values...)
		wantType(t, l, fittingType(values))
		first, last := impl.EncPlain(l), impl.EncPlain(l)
		scribble(first, 99)
		check("the list of TypeOf and EncPlain")
		scribble(l, impl.Val{})
		wantBytes(t, "EncPlain, its argument and another result overwritten", last, want)
	}
}

func TestDecodeMemory(t *testing.T) {
	for _, code := range append(argumentBytes(), plainCodes(someVals(tyInt, mostVals)...), plainCodes(someVals(tyText, mostVals)...), []byte("\x02ab\x00\x01c")) {
		b, check := spare(t, 'a', code...)
		for _, ty := range []int{tyInt, tyText, 0, 3} {
			for at := -1; at <= len(b)+1; at++ {
				impl.GetVal(b, at, ty)
			}
			for k := -1; k <= mostVals+1; k++ {
				l, _ := impl.DecPlain(b, ty, k)
				scribble(l, textOf("gone"))
			}
		}
		check("GetVal and DecPlain")
	}
	for _, ty := range bothTypes() {
		want := someVals(ty, mostVals)
		b := impl.EncPlain(want)
		v, _, _ := impl.GetVal(b, 0, ty)
		first, _ := impl.DecPlain(b, ty, mostVals)
		last, _ := impl.DecPlain(b, ty, mostVals)
		scribble(first, textOf("gone"))
		scribble(b, 'x')
		if v != want[0] || !slices.Equal(last, want) {
			t.Errorf("decoded values, their bytes and other results overwritten: %v and %v, want %v", v, last, want)
		}
	}
}

// TestTextMemory overwrites the bytes that a string was decoded from.
func TestTextMemory(t *testing.T) {
	for _, s := range goodTexts() {
		b := plainCode(textOf(s))
		v, _, _ := impl.GetVal(b, 0, tyText)
		l, _ := impl.DecPlain(b, tyText, 1)
		scribble(b, 'x')
		if v != textOf(s) || len(l) != 1 || l[0] != textOf(s) {
			t.Errorf("the bytes of %q overwritten: %v and %v", s, v, l)
		}
	}
}

func TestPlainStaysTheSame(t *testing.T) {
	want := textsOf("ab", "", "c")
	for range 3 {
		b := impl.EncPlain(want)
		wantBytes(t, "EncPlain again", b, []byte("\x02ab\x00\x01c"))
		wantDecoded(t, b, tyText, want)
		wantNotDecoded(t, b, tyText, 2)
		wantNotDecoded(t, b[:5], tyText, 3)
		failed, _ := impl.DecPlain(b, tyText, 4)
		scribble(failed, intOf(9))
		none := impl.EncPlain(nil)
		scribble(none, 99)
		wantBytes(t, "EncPlain of nothing", impl.EncPlain(nil), nil)
		wantType(t, want, tyText)
		wantType(t, []impl.Val{intOf(1), textOf("a")}, 0)
		scribble(b, 0)
	}
}
