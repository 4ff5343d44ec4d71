package tests

import (
	"math"
	"regexp"
	"slices"
	"strconv"
	"strings"
	"testing"

	"loop.example/g00496/impl"
)

const (
	tyInt  = 1
	tyText = 2
)

var (
	plainInt  = regexp.MustCompile(`\A(0|-?[1-9][0-9]{0,9})\z`)
	plainText = regexp.MustCompile(`\A[a-z0-9]{0,6}\z`)
)

func intOf(n int) impl.Val {
	return impl.Val{Ty: tyInt, N: n}
}

func textOf(s string) impl.Val {
	return impl.Val{Ty: tyText, S: s}
}

func wrongTypes() []int {
	return []int{0, 3, 4, -1, -2, tyInt + 1<<8, tyText + 1<<8, tyInt + 1<<32, tyText + 1<<32, math.MaxInt, math.MinInt}
}

func goodTexts() []string {
	return []string{"", "a", "z", "0", "9", "7", "m", "az", "09", "00", "007", "red", "a0z9", "12345", "seven7", "zzzzzz", "000000", "999999", "aaaaaa"}
}

// wrongTexts returns strings that are too long or have a character that is not permitted. Some have at
// most six characters and more bytes.
func wrongTexts() []string {
	out := []string{
		"`", "{", "/", ":", "A", "Z", "'", "-", "+", " ", "_", ".", ",", "\x00", "\n", "\t", "\x7f", "\x80", "\xe1", "\xff",
		"é", "ß", "ａ", "１", "١", "ﬁ", "éééééé", "abcdeé", "éabcde", "-1", "'a", "a'", "a b", " a", "a ", "a\n", "a\x00", "aB", "Ba",
		"seven77", "abcdefg", "0000000", "1000000000", strings.Repeat("a", 8), strings.Repeat("a", 256+6), strings.Repeat("7", 100000),
	}
	for c := range 256 {
		if !plainText.Match([]byte{byte(c)}) {
			for at := range 6 {
				b := []byte("abcxyz")
				b[at] = byte(c)
				out = append(out, string(b), string(b[at:]))
			}
		}
	}
	return out
}

// wrongVals returns values that break one rule each, and some that break several.
func wrongVals() []impl.Val {
	var out []impl.Val
	for _, n := range beyondNums() {
		out = append(out, intOf(n), impl.Val{Ty: tyInt, N: n, S: "a"})
	}
	for _, s := range wrongTexts() {
		out = append(out, textOf(s), impl.Val{Ty: tyText, N: 1, S: s}, impl.Val{Ty: tyInt, S: s}, impl.Val{Ty: tyInt, N: 5, S: s})
	}
	for _, s := range goodTexts() {
		for _, n := range []int{1, -1, 7, mostNum, -mostNum, mostNum + 1, 1 << 32, math.MaxInt, math.MinInt} {
			out = append(out, impl.Val{Ty: tyText, N: n, S: s})
			if s != "" {
				out = append(out, impl.Val{Ty: tyInt, N: n, S: s}, impl.Val{Ty: tyInt, S: s})
			}
		}
		for _, ty := range wrongTypes() {
			out = append(out, impl.Val{Ty: ty, S: s}, impl.Val{Ty: ty, N: 3}, impl.Val{Ty: ty, N: 3, S: s})
		}
	}
	return out
}

func goodVals() []impl.Val {
	var out []impl.Val
	for _, n := range sampleNums() {
		out = append(out, intOf(n))
	}
	for _, s := range goodTexts() {
		out = append(out, textOf(s))
	}
	for c := range 256 {
		for at := range 6 {
			b := []byte("abcxyz")
			b[at] = byte(c)
			if plainText.Match(b) {
				out = append(out, textOf(string(b)), textOf(string(b[:at+1])))
			}
		}
	}
	return out
}

// plainVal parses a value by the document's grammar, apart from the program.
func plainVal(s string) (impl.Val, bool) {
	if s != "" && s[0] == '\'' && plainText.MatchString(s[1:]) {
		return textOf(s[1:]), true
	}
	if !plainInt.MatchString(s) {
		return impl.Val{}, false
	}
	n, _ := strconv.Atoi(s)
	if n < -mostNum || n > mostNum {
		return impl.Val{}, false
	}
	return intOf(n), true
}

func wantVal(t *testing.T, s string, want impl.Val) {
	t.Helper()
	if v, ok := impl.ParseVal(s); v != want || !ok {
		t.Errorf("ParseVal(%.40q) = %v, %v; want %v, true", s, v, ok, want)
	}
}

func wantNoVal(t *testing.T, s string) {
	t.Helper()
	if v, ok := impl.ParseVal(s); v != (impl.Val{}) || ok {
		t.Errorf("ParseVal(%.40q) = %v, %v; want the zero Val, false", s, v, ok)
	}
}

// wantPlainVal checks that s is parsed exactly if it is the text of a value.
func wantPlainVal(t *testing.T, s string) {
	t.Helper()
	want, ok := plainVal(s)
	if !ok {
		wantNoVal(t, s)
		return
	}
	wantVal(t, s, want)
	if back := impl.ValText(want); back != s {
		t.Errorf("ValText(%v) = %q, want %q", want, back, s)
	}
}

func wantSame(t *testing.T, a, b []impl.Val, want bool) {
	t.Helper()
	if impl.SameVals(a, b) != want || impl.SameVals(b, a) != want {
		t.Errorf("SameVals(%v, %v) = %v and %v the other way round; want %v", a, b, impl.SameVals(a, b), impl.SameVals(b, a), want)
	}
}

func TestValConstants(t *testing.T) {
	if impl.TyInt != tyInt || impl.TyText != tyText || impl.MaxText != 6 {
		t.Error(impl.TyInt, impl.TyText, impl.MaxText)
	}
}

func TestValOk(t *testing.T) {
	for _, v := range goodVals() {
		if !impl.ValOk(v) {
			t.Errorf("ValOk(%v) is false", v)
		}
	}
	for _, v := range append(wrongVals(), impl.Val{}) {
		if impl.ValOk(v) {
			t.Errorf("ValOk of Ty %d, N %d, S %.40q is true", v.Ty, v.N, v.S)
		}
	}
}

func TestValOkEnds(t *testing.T) {
	for _, c := range []struct {
		v    impl.Val
		want bool
	}{
		{intOf(mostNum), true}, {intOf(mostNum + 1), false}, {intOf(-mostNum), true}, {intOf(-mostNum - 1), false}, {intOf(0), true},
		{textOf(""), true}, {textOf("sixsix"), true}, {textOf("seven77"), false}, {textOf("a"), true}, {textOf("`"), false},
		{textOf("z"), true}, {textOf("{"), false}, {textOf("0"), true}, {textOf("/"), false}, {textOf("9"), true}, {textOf(":"), false},
		{textOf("A"), false}, {textOf("\x80"), false}, {textOf("\xff"), false}, {textOf("é"), false},
		{impl.Val{Ty: tyInt, N: 4, S: "4"}, false}, {impl.Val{Ty: tyInt, S: "red"}, false},
		{impl.Val{Ty: tyText, N: 1}, false}, {impl.Val{Ty: tyText, N: -1, S: "red"}, false},
		{impl.Val{}, false}, {impl.Val{Ty: 3}, false}, {impl.Val{Ty: -1}, false}, {impl.Val{N: 4}, false}, {impl.Val{S: "red"}, false},
	} {
		if got := impl.ValOk(c.v); got != c.want {
			t.Errorf("ValOk(%v) = %v, want %v", c.v, got, c.want)
		}
	}
}

// risingVals returns all combinations of some fields, invalid ones among them, in ascending order. The
// numbers are so far apart that their difference overflows.
func risingVals() []impl.Val {
	var out []impl.Val
	for _, ty := range []int{math.MinInt, -1, 0, tyInt, tyText, 3, math.MaxInt} {
		for _, n := range []int{math.MinInt, -mostNum - 1, -mostNum, -2, -1, 0, 1, 2, 10, mostNum, mostNum + 1, math.MaxInt} {
			for _, s := range []string{"", "\x00", "-1", "0", "00", "10", "2", "9", "A", "Z", "a", "a0", "aa", "aaaaaa", "aaaaaaa", "ab", "b", "red", "zzzzzz", "{", "\x80", "é", "\xff"} {
				out = append(out, impl.Val{Ty: ty, N: n, S: s})
			}
		}
	}
	return out
}

func TestLessVal(t *testing.T) {
	l := risingVals()
	for i, a := range l {
		for k, b := range l {
			if got := impl.LessVal(a, b); got != (i < k) {
				t.Fatalf("LessVal(%v, %v) = %v, want %v", a, b, got, i < k)
			}
		}
	}
}

func TestLessValTable(t *testing.T) {
	for _, c := range []struct{ a, b impl.Val }{
		{intOf(-4), textOf("red")}, {intOf(mostNum), textOf("")}, {intOf(0), textOf("")}, {intOf(0), textOf("0")}, {intOf(9), textOf("8")},
		{intOf(-2), intOf(-1)}, {intOf(-1), intOf(0)}, {intOf(9), intOf(10)}, {intOf(-10), intOf(-9)}, {intOf(-mostNum), intOf(mostNum)},
		{textOf(""), textOf("0")}, {textOf("10"), textOf("9")}, {textOf("9"), textOf("a")}, {textOf("a"), textOf("aa")}, {textOf("az"), textOf("b")},
		{impl.Val{Ty: 1, N: 5, S: "z"}, impl.Val{Ty: 2, N: 4, S: "a"}}, {impl.Val{Ty: 2, N: 4, S: "z"}, impl.Val{Ty: 2, N: 5, S: "a"}},
	} {
		if !impl.LessVal(c.a, c.b) || impl.LessVal(c.b, c.a) || impl.LessVal(c.a, c.a) || impl.LessVal(c.b, c.b) {
			t.Errorf("LessVal of %v and %v", c.a, c.b)
		}
	}
}

// TestLessValExactlyOne needs no expected order, so it can mix values of all sorts.
func TestLessValExactlyOne(t *testing.T) {
	good := goodVals()
	l := slices.Concat(good[19900:20100], good[len(good)-300:], wrongVals()[:300])
	for _, a := range l {
		for _, b := range l {
			less, more := impl.LessVal(a, b), impl.LessVal(b, a)
			if a == b && (less || more) || a != b && less == more {
				t.Fatalf("LessVal(%v, %v) = %v and %v the other way round", a, b, less, more)
			}
		}
	}
}

func TestSameVals(t *testing.T) {
	a, b := intOf(-4), textOf("red")
	for _, c := range []struct {
		a, b []impl.Val
		want bool
	}{
		{nil, nil, true}, {nil, []impl.Val{}, true}, {[]impl.Val{}, []impl.Val{}, true}, {[]impl.Val{a}, []impl.Val{intOf(-4)}, true},
		{[]impl.Val{a, b}, []impl.Val{a, b}, true}, {nil, []impl.Val{a}, false}, {[]impl.Val{}, []impl.Val{b}, false},
		{nil, []impl.Val{{}}, false}, {[]impl.Val{a}, []impl.Val{b}, false}, {[]impl.Val{a, b}, []impl.Val{b, a}, false},
		{[]impl.Val{a}, []impl.Val{a, a}, false}, {[]impl.Val{a, b}, []impl.Val{a}, false}, {[]impl.Val{a, b}, []impl.Val{b}, false},
		{[]impl.Val{a, b, a}, []impl.Val{a, b, b}, false}, {[]impl.Val{a, b, a}, []impl.Val{b, b, a}, false}, {[]impl.Val{a, b, a}, []impl.Val{a, a, a}, false},
		{[]impl.Val{intOf(0)}, []impl.Val{textOf("")}, false}, {[]impl.Val{intOf(0)}, []impl.Val{{}}, false}, {[]impl.Val{textOf("")}, []impl.Val{{}}, false},
		{[]impl.Val{textOf("")}, []impl.Val{textOf("")}, true}, {[]impl.Val{{}}, []impl.Val{{}}, true},
		{[]impl.Val{textOf("a")}, []impl.Val{textOf("aa")}, false}, {[]impl.Val{textOf("a")}, []impl.Val{textOf("b")}, false},
	} {
		wantSame(t, c.a, c.b, c.want)
	}
}

// TestSameValsOneField checks that a single field of a single element decides, invalid values included.
func TestSameValsOneField(t *testing.T) {
	for _, v := range []impl.Val{{}, intOf(0), intOf(5), textOf(""), textOf("red"), {Ty: 3, N: 5, S: "R"}, {Ty: tyInt, N: 4, S: "a"}} {
		changed := []impl.Val{v, v, v, v, v}
		changed[0].Ty++
		changed[1].N++
		changed[2].N += 1 << 32
		changed[3].S += "0"
		changed[4].S += "\x00"
		for _, k := range []int{1, 2, 3, 64, 100} {
			a := slices.Repeat([]impl.Val{v}, k)
			wantSame(t, a, slices.Clone(a), true)
			wantSame(t, a, a[:k-1], false)
			wantSame(t, a, append(slices.Clone(a), v), false)
			for i := range k {
				for _, other := range changed {
					b := slices.Clone(a)
					b[i] = other
					wantSame(t, a, b, false)
				}
			}
		}
	}
}

func TestSameValsWithinCapacity(t *testing.T) {
	a := []impl.Val{intOf(1), intOf(2), intOf(3)}
	b := []impl.Val{intOf(1), intOf(2), intOf(4)}
	wantSame(t, a[:2], b[:2], true)
	wantSame(t, a[:2], a, false)
	wantSame(t, a[:0], nil, true)
	wantSame(t, a[:0], b[:0], true)
}

func TestValTextTable(t *testing.T) {
	for _, c := range []struct {
		v    impl.Val
		want string
	}{
		{intOf(0), "0"}, {intOf(-4), "-4"}, {intOf(7), "7"}, {intOf(105), "105"}, {intOf(mostNum), "1000000000"}, {intOf(-mostNum), "-1000000000"},
		{textOf(""), "'"}, {textOf("red"), "'red"}, {textOf("0"), "'0"}, {textOf("007"), "'007"}, {textOf("seven7"), "'seven7"}, {textOf("4"), "'4"},
	} {
		if s := impl.ValText(c.v); s != c.want {
			t.Errorf("ValText(%v) = %q, want %q", c.v, s, c.want)
		}
		wantVal(t, c.want, c.v)
	}
}

func TestValTextInvalid(t *testing.T) {
	for _, v := range append(wrongVals(), impl.Val{}) {
		if s := impl.ValText(v); s != "" {
			t.Errorf("ValText of Ty %d, N %d, S %.40q = %.40q, want the empty string", v.Ty, v.N, v.S, s)
		}
	}
}

func TestValRoundTrip(t *testing.T) {
	texts := make(map[string]impl.Val)
	for _, v := range goodVals() {
		s := impl.ValText(v)
		wantVal(t, s, v)
		if other, had := texts[s]; s == "" || had && other != v {
			t.Errorf("%v and %v have the text %q", v, other, s)
		}
		texts[s] = v
	}
}

func TestParseValRejects(t *testing.T) {
	wrong := []string{
		"", " ", "-", "+", "-0", "+0", "+1", "00", "01", "-01", "007", "--1", "1-", "-+1", "1 ", " 1", "1\n", "1 2", "0x1", "1_0", "1e3", "1.0", "1,", "\u0661",
		"1000000001", "-1000000001", "2000000000", "9999999999", "-9999999999", "10000000000", "4294967297", "18446744073709551617", strings.Repeat("1", 100000),
		"x", "red", "a", "red'", "1'", "''", "'''", "'a'", "'red'", " '", "' ", "' a", "'a b", "-'", "'-", "'-1", "'+1", "\"", "\"red\"", "`red", "\u2019red",
		"'A", "'Red", "'seven77", "'0000000", "'1000000000", "'\x00", "'a\n", "'é", "'\xff", "'" + strings.Repeat("a", 100000),
	}
	for _, s := range wrongTexts() {
		wrong = append(wrong, "'"+s)
	}
	for _, n := range beyondNums() {
		wrong = append(wrong, strconv.Itoa(n))
	}
	for _, s := range wrong {
		wantNoVal(t, s)
	}
}

func TestParseValShortTexts(t *testing.T) {
	wantPlainVal(t, "")
	for x := range 256 {
		wantPlainVal(t, string([]byte{byte(x)}))
		for y := range 256 {
			wantPlainVal(t, string([]byte{byte(x), byte(y)}))
			wantPlainVal(t, string([]byte{'\'', byte(x), byte(y)}))
			wantPlainVal(t, string([]byte{'-', byte(x), byte(y)}))
		}
	}
}

// nearTexts returns the texts that differ from s in one place: a byte is inserted, replaced or removed.
func nearTexts(s string) []string {
	var out []string
	for at := range len(s) + 1 {
		for c := range 256 {
			out = append(out, s[:at]+string([]byte{byte(c)})+s[at:])
			if at < len(s) {
				out = append(out, s[:at]+string([]byte{byte(c)})+s[at+1:])
			}
		}
		if at < len(s) {
			out = append(out, s[:at]+s[at+1:])
		}
	}
	return out
}

func TestParseValNearTexts(t *testing.T) {
	for _, s := range []string{"0", "-4", "12", "999999999", "1000000000", "-1000000000", "100000000", "'", "'a", "'red", "'12345", "'seven7"} {
		for _, near := range nearTexts(s) {
			wantPlainVal(t, near)
		}
	}
}

func wantFields(t *testing.T, l []impl.Val, nums []int, texts []string) {
	t.Helper()
	if got := impl.NumsOf(l); !slices.Equal(got, nums) {
		t.Errorf("NumsOf(%v) = %v, want %v", l, got, nums)
	}
	if got := impl.TextsOf(l); !slices.Equal(got, texts) {
		t.Errorf("TextsOf(%v) = %q, want %q", l, got, texts)
	}
}

func TestFieldsOf(t *testing.T) {
	wantFields(t, nil, nil, nil)
	wantFields(t, []impl.Val{}, nil, nil)
	wantFields(t, []impl.Val{intOf(-4), textOf("red")}, []int{-4, 0}, []string{"", "red"})
	wantFields(t, []impl.Val{textOf(""), intOf(0), textOf("a"), textOf("a"), intOf(7)}, []int{0, 0, 0, 0, 7}, []string{"", "", "a", "a", ""})
	invalid := []impl.Val{{}, {Ty: tyInt, N: 3, S: "x"}, {Ty: tyText, N: -3, S: "seven77"}, {Ty: 9, N: math.MaxInt, S: "A"}, {N: math.MinInt, S: "é\xff"}, intOf(mostNum + 1)}
	wantFields(t, invalid, []int{0, 3, -3, math.MaxInt, math.MinInt, mostNum + 1}, []string{"", "x", "seven77", "A", "é\xff", ""})
	wantFields(t, invalid[:2], []int{0, 3}, []string{"", "x"})
	wantFields(t, invalid[:0], nil, nil)
	for _, k := range []int{1, 2, 64, 65, 1000} {
		l := make([]impl.Val, k)
		nums, texts := make([]int, k), make([]string, k)
		for i := range l {
			nums[i], texts[i] = i*i-500, strconv.Itoa(i)
			l[i] = impl.Val{Ty: i % 4, N: nums[i], S: texts[i]}
		}
		wantFields(t, l, nums, texts)
	}
}

func TestValsMemory(t *testing.T) {
	mark := impl.Val{Ty: 7, N: 77, S: "mark"}
	for _, l := range [][]impl.Val{{}, {intOf(1)}, {intOf(-4), textOf("red"), {}}, {{Ty: 9, N: 1 << 40, S: "Z"}}, slices.Repeat([]impl.Val{{Ty: 2, N: 3, S: "s"}}, 65)} {
		var nums []int
		var texts []string
		for _, v := range l {
			nums, texts = append(nums, v.N), append(texts, v.S)
		}
		a, checkA := spare(t, mark, l...)
		b, checkB := spare(t, mark, l...)
		wantSame(t, a, b, true)
		wantSame(t, a, append(slices.Clone(l), mark), false)
		firstNums, firstTexts := impl.NumsOf(a), impl.TextsOf(a)
		lastNums, lastTexts := impl.NumsOf(a), impl.TextsOf(a)
		scribble(firstNums, 99)
		scribble(firstTexts, "gone")
		checkA("the first list of SameVals, NumsOf and TextsOf")
		checkB("the second list of SameVals")
		scribble(a, impl.Val{})
		if !slices.Equal(lastNums, nums) || !slices.Equal(lastTexts, texts) {
			t.Errorf("NumsOf and TextsOf, their argument and other results overwritten: %v, %q; want %v, %q", lastNums, lastTexts, nums, texts)
		}
	}
}

func TestValsStayTheSame(t *testing.T) {
	for range 3 {
		wantNoVal(t, "")
		wantNoVal(t, "'A")
		wantNoVal(t, "007")
		wantVal(t, "'", textOf(""))
		wantVal(t, "'red", textOf("red"))
		wantVal(t, "-4", intOf(-4))
		wantFields(t, []impl.Val{intOf(-4), textOf("red")}, []int{-4, 0}, []string{"", "red"})
		wantFields(t, nil, nil, nil)
	}
}
