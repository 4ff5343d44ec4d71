package tests

import (
	"math"
	"slices"
	"strings"
	"testing"

	"loop.example/g00496/impl"
)

const (
	cpLess  = 1
	cpMost  = 2
	cpSame  = 3
	cpElse  = 4
	cpLeast = 5
	cpMore  = 6
)

func allOps() []int {
	return []int{cpLess, cpMost, cpSame, cpElse, cpLeast, cpMore}
}

// wrongOps returns numbers that are no operator. Some would be one in fewer bits, or with another sign.
func wrongOps() []int {
	out := []int{
		0, -1, 7, 8, 9, 10, -7, 127, 128, 255, -128, -255, 1 << 31, -1 << 31, 1 << 62, -1 << 62,
		math.MaxInt, math.MaxInt - 1, math.MaxInt - 5, math.MaxInt - 6, math.MinInt, math.MinInt + 1, math.MinInt + 6, math.MinInt + 7,
	}
	for _, op := range allOps() {
		out = append(out, -op, ^op, op+1<<8, op-1<<8, op+1<<16, op+1<<32, op-1<<32, op+math.MinInt)
	}
	return out
}

func zoneFrom(lo, hi impl.Val) impl.Zone {
	return impl.Zone{Lo: lo, Hi: hi}
}

// plainZone sorts a list and takes its first and its last value, apart from the program.
func plainZone(l []impl.Val) impl.Zone {
	if len(l) == 0 {
		return impl.Zone{}
	}
	sorted := slices.SortedFunc(slices.Values(l), orderPlainly)
	return zoneFrom(sorted[0], sorted[len(sorted)-1])
}

// plainHolds looks up whether an operator holds for the order of two values: less, equal or greater.
func plainHolds(op int, a, b impl.Val) bool {
	holds := map[int][3]bool{
		cpLess: {true, false, false}, cpMost: {true, true, false}, cpSame: {false, true, false},
		cpElse: {true, false, true}, cpLeast: {false, true, true}, cpMore: {false, false, true},
	}
	return holds[op][orderPlainly(a, b)+1]
}

// plainMayHold looks up whether an operator may hold, a row for the order of Lo and v, and in it a
// digit for the order of Hi and v: less, equal or greater.
func plainMayHold(op int, z impl.Zone, v impl.Val) bool {
	mays := map[int]string{
		cpLess: "111 000 000", cpMost: "111 111 000", cpSame: "011 011 000",
		cpElse: "111 101 111", cpLeast: "011 011 011", cpMore: "001 001 001",
	}
	may, ok := mays[op]
	return ok && strings.Fields(may)[orderPlainly(z.Lo, v)+1][orderPlainly(z.Hi, v)+1] == '1'
}

func plainInZone(z impl.Zone, v impl.Val) bool {
	return orderPlainly(z.Lo, v) <= 0 && orderPlainly(v, z.Hi) <= 0
}

// firstVals returns so many values of a list as a message should show.
func firstVals(l []impl.Val) []impl.Val {
	return l[:min(len(l), 10)]
}

// wantZone ends the test at the first mistake, as the other checks here do: there are so many zones and
// values that their messages would fill the disk.
func wantZone(t *testing.T, l []impl.Val, lo, hi impl.Val) {
	t.Helper()
	if z := impl.ZoneOf(l); z != zoneFrom(lo, hi) {
		t.Fatalf("ZoneOf of %d values, %+v first, = %+v, want %+v and %+v", len(l), firstVals(l), z, lo, hi)
	}
}

// wantPlainZone checks the zone of a list, and that each of its values lies in it.
func wantPlainZone(t *testing.T, l []impl.Val) {
	t.Helper()
	want := plainZone(l)
	wantZone(t, l, want.Lo, want.Hi)
	z := impl.ZoneOf(l)
	for _, v := range l {
		if !impl.InZone(z, v) {
			t.Fatalf("%+v does not lie in %+v, the zone of %d values, %+v first", v, z, len(l), firstVals(l))
		}
	}
}

func wantHolds(t *testing.T, op int, a, b impl.Val, want bool) {
	t.Helper()
	if got := impl.Holds1(op, a, b); got != want {
		t.Fatalf("Holds1(%d, %+v, %+v) = %v, want %v", op, a, b, got, want)
	}
}

func wantMayHold(t *testing.T, op int, z impl.Zone, v impl.Val, want bool) {
	t.Helper()
	if got := impl.MayHold1(op, z, v); got != want {
		t.Fatalf("MayHold1(%d, %+v, %+v) = %v, want %v", op, z, v, got, want)
	}
}

func wantInZone(t *testing.T, z impl.Zone, v impl.Val, want bool) {
	t.Helper()
	if got := impl.InZone(z, v); got != want {
		t.Fatalf("InZone(%+v, %+v) = %v, want %v", z, v, got, want)
	}
}

// wantMays checks all operators, CpLess first: a 1 for each that may hold.
func wantMays(t *testing.T, z impl.Zone, v impl.Val, want string) {
	t.Helper()
	for i, op := range allOps() {
		wantMayHold(t, op, z, v, want[i] == '1')
	}
	wantInZone(t, z, v, want[cpSame-1] == '1')
	wantNoOpMays(t, z, v)
}

func wantNoOpMays(t *testing.T, z impl.Zone, v impl.Val) {
	t.Helper()
	for _, op := range wrongOps() {
		wantMayHold(t, op, z, v, false)
	}
}

// wantPlainMays checks all operators against the tables, and the zone.
func wantPlainMays(t *testing.T, z impl.Zone, v impl.Val) {
	t.Helper()
	for _, op := range allOps() {
		wantMayHold(t, op, z, v, plainMayHold(op, z, v))
	}
	wantInZone(t, z, v, plainInZone(z, v))
}

// fewVals returns valid and invalid values, many of which differ in one field only, in ascending order.
func fewVals() []impl.Val {
	var out []impl.Val
	for _, ty := range []int{0, tyInt, tyText, 3} {
		for _, n := range []int{math.MinInt, -1, 0, 5, math.MaxInt} {
			for _, s := range []string{"", "a", "ab", "b"} {
				out = append(out, impl.Val{Ty: ty, N: n, S: s})
			}
		}
	}
	return out
}

// oneFieldApart returns values that differ from v in one field only, less ones and greater ones.
func oneFieldApart(v impl.Val) []impl.Val {
	var out []impl.Val
	for _, by := range []int{1, -1, 1 << 8, 1 << 32, -1 << 32, math.MinInt} {
		out = append(out, impl.Val{Ty: v.Ty + by, N: v.N, S: v.S}, impl.Val{Ty: v.Ty, N: v.N + by, S: v.S})
	}
	texts := []string{v.S + "a", v.S + "\x00", "0" + v.S, "z" + v.S}
	if v.S != "" {
		texts = append(texts, "", v.S[:len(v.S)-1], strings.ToUpper(v.S))
	}
	for _, s := range texts {
		out = append(out, impl.Val{Ty: v.Ty, N: v.N, S: s})
	}
	return slices.DeleteFunc(out, func(other impl.Val) bool { return other == v })
}

// zoneLists returns columns, lists of both types, lists with invalid values and lists that are too long
// for a column.
func zoneLists() [][]impl.Val {
	return slices.Concat(colSamples(), notColumns(), listsOf(4, intOf(3), intOf(-3), textOf("a"), textOf("ab"), impl.Val{}))
}

func TestOps(t *testing.T) {
	if impl.CpLess != cpLess || impl.CpMost != cpMost || impl.CpSame != cpSame || impl.CpElse != cpElse || impl.CpLeast != cpLeast || impl.CpMore != cpMore {
		t.Error(impl.CpLess, impl.CpMost, impl.CpSame, impl.CpElse, impl.CpLeast, impl.CpMore)
	}
}

func TestZoneOfNothing(t *testing.T) {
	wantZone(t, nil, impl.Val{}, impl.Val{})
	wantZone(t, []impl.Val{}, impl.Val{}, impl.Val{})
	wantZone(t, intsOf(4, 5, 6)[:0], impl.Val{}, impl.Val{})
	wantZone(t, intsOf(4, 5, 6)[3:], impl.Val{}, impl.Val{})
}

func TestZoneOfOneValue(t *testing.T) {
	good := goodVals()
	for _, v := range slices.Concat(good[19900:20100], good[len(good)-300:], wrongVals(), risingVals()) {
		wantZone(t, []impl.Val{v}, v, v)
	}
}

func TestZoneOfEqualValues(t *testing.T) {
	for _, v := range append(fewVals(), intOf(mostNum), intOf(-mostNum), textOf("seven7"), textOf("zzzzzz")) {
		for _, k := range []int{2, 3, mostVals, mostVals + 1, 1000} {
			wantZone(t, cycleOf(k, v), v, v)
		}
	}
}

func TestZoneOfTable(t *testing.T) {
	invalid := impl.Val{Ty: tyInt, N: 3, S: "a"}
	for _, c := range []struct {
		l      []impl.Val
		lo, hi impl.Val
	}{
		{intsOf(3, 1, 2), intOf(1), intOf(3)}, {intsOf(1, 2), intOf(1), intOf(2)}, {intsOf(2, 1), intOf(1), intOf(2)},
		{intsOf(-1, 0, -2), intOf(-2), intOf(0)}, {intsOf(5, 6), intOf(5), intOf(6)}, {intsOf(-6, -5), intOf(-6), intOf(-5)},
		{intsOf(9, 10), intOf(9), intOf(10)}, {textsOf("9", "10"), textOf("10"), textOf("9")}, {intsOf(mostNum, -mostNum), intOf(-mostNum), intOf(mostNum)},
		{textsOf("b", "c", "a"), textOf("a"), textOf("c")}, {textsOf("", "a"), textOf(""), textOf("a")}, {textsOf("a", ""), textOf(""), textOf("a")},
		{textsOf("ab", "a", "abc"), textOf("a"), textOf("abc")}, {textsOf("abc", "ab", "a"), textOf("a"), textOf("abc")}, {textsOf("a", "aa", "b"), textOf("a"), textOf("b")},
		{textsOf("b", "aaaaaa"), textOf("aaaaaa"), textOf("b")}, {textsOf("a", "0"), textOf("0"), textOf("a")},
		{[]impl.Val{textOf("a"), intOf(9)}, intOf(9), textOf("a")}, {[]impl.Val{intOf(9), textOf("a")}, intOf(9), textOf("a")},
		{[]impl.Val{intOf(mostNum), textOf(""), intOf(-1)}, intOf(-1), textOf("")}, {[]impl.Val{textOf("a"), textOf("b"), intOf(0), intOf(1)}, intOf(0), textOf("b")},
		{[]impl.Val{{}, intOf(-5)}, impl.Val{}, intOf(-5)}, {[]impl.Val{intOf(-5), {}}, impl.Val{}, intOf(-5)}, {[]impl.Val{intOf(-5), {}, {Ty: 3}}, impl.Val{}, impl.Val{Ty: 3}},
		{[]impl.Val{intOf(3), invalid, intOf(2)}, intOf(2), invalid}, {[]impl.Val{invalid, intOf(3), intOf(4)}, intOf(3), intOf(4)},
		{intsOf(math.MaxInt, 0, math.MinInt), intOf(math.MinInt), intOf(math.MaxInt)}, {textsOf("a", "A", "\xff"), textOf("A"), textOf("\xff")},
	} {
		wantZone(t, c.l, c.lo, c.hi)
		wantPlainZone(t, c.l)
		wantZone(t, backwards(c.l), c.lo, c.hi)
	}
}

// TestZoneOfPlaces has the minimum and the maximum at all places, once and in all pairs.
func TestZoneOfPlaces(t *testing.T) {
	for _, c := range []struct{ lo, between, hi impl.Val }{
		{intOf(-4), intOf(2), intOf(7)}, {intOf(-mostNum), intOf(0), intOf(mostNum)}, {textOf("a"), textOf("ab"), textOf("abc")}, {intOf(8), textOf(""), textOf("z")}, {impl.Val{}, intOf(1), impl.Val{Ty: 3}},
	} {
		for _, k := range []int{2, 3, 4, 5, mostVals, mostVals + 1, mostVals + 6} {
			for lo := range k {
				l := cycleOf(k, c.between)
				l[lo] = c.lo
				wantZone(t, l, c.lo, c.between)
				l[lo] = c.hi
				wantZone(t, l, c.between, c.hi)
				for hi := range k {
					l := cycleOf(k, c.between)
					l[hi] = c.hi
					l[lo] = c.lo
					wantPlainZone(t, l)
				}
			}
		}
	}
}

func TestZoneOfManyValues(t *testing.T) {
	for _, k := range []int{mostVals - 1, mostVals, mostVals + 1, 2 * mostVals, 256, 257, 1<<16 + 1} {
		l := intsOf(listFrom(-7, k)...)
		wantZone(t, l, intOf(-7), intOf(k-8))
		wantZone(t, backwards(l), intOf(-7), intOf(k-8))
		l[0], l[k-1] = textOf("a"), textOf("")
		wantZone(t, l, intOf(-6), textOf("a"))
	}
	for _, ty := range bothTypes() {
		for k := 1; k <= mostVals+2; k++ {
			wantPlainZone(t, someVals(ty, k))
			wantPlainZone(t, descending(ty, k))
			wantPlainZone(t, differentVals(ty, k))
		}
	}
}

func TestZoneOfLists(t *testing.T) {
	for _, l := range zoneLists() {
		wantPlainZone(t, l)
	}
	for _, l := range listsOf(3, fewVals()[10:34]...) {
		wantPlainZone(t, l)
	}
	wantPlainZone(t, risingVals())
	wantPlainZone(t, backwards(risingVals()))
	wantPlainZone(t, wrongVals())
}

// TestZoneOfWithinLength has smaller and greater values in the spare capacity.
func TestZoneOfWithinLength(t *testing.T) {
	l := intsOf(0, 4, 5, 3, 9, -9)
	wantZone(t, l[:1], intOf(0), intOf(0))
	wantZone(t, l[1:4], intOf(3), intOf(5))
	wantZone(t, l[1:3], intOf(4), intOf(5))
	wantZone(t, l[:4], intOf(0), intOf(5))
}

func TestHolds1Table(t *testing.T) {
	for _, c := range []struct {
		a, b impl.Val
		want string
	}{
		{intOf(1), intOf(2), "110100"}, {intOf(2), intOf(1), "000111"}, {intOf(2), intOf(2), "011010"}, {intOf(-1), intOf(0), "110100"}, {intOf(9), intOf(10), "110100"},
		{textOf("a"), textOf("b"), "110100"}, {textOf("b"), textOf("a"), "000111"}, {textOf("a"), textOf("a"), "011010"}, {textOf(""), textOf(""), "011010"},
		{textOf("a"), textOf("ab"), "110100"}, {textOf("ab"), textOf("a"), "000111"}, {textOf("10"), textOf("9"), "110100"},
		{intOf(5), textOf("5"), "110100"}, {textOf("5"), intOf(5), "000111"}, {intOf(0), textOf(""), "110100"}, {textOf(""), intOf(0), "000111"},
		{impl.Val{}, impl.Val{}, "011010"}, {impl.Val{}, intOf(0), "110100"}, {impl.Val{Ty: 3}, textOf("z"), "000111"},
		{intOf(3), impl.Val{Ty: tyInt, N: 3, S: "a"}, "110100"}, {textOf("a"), impl.Val{Ty: tyText, N: -1, S: "a"}, "000111"},
		{intOf(math.MinInt), intOf(math.MaxInt), "110100"}, {intOf(math.MaxInt), intOf(math.MinInt), "000111"},
	} {
		for i, op := range allOps() {
			wantHolds(t, op, c.a, c.b, c.want[i] == '1')
		}
		for _, op := range wrongOps() {
			wantHolds(t, op, c.a, c.b, false)
		}
	}
}

func TestHolds1Pairs(t *testing.T) {
	l := risingVals()
	for i, a := range l {
		for k := i % 7; k < len(l); k += 7 {
			for _, op := range allOps() {
				want := [...]bool{i < k, i <= k, i == k, i != k, i >= k, i > k}[op-1]
				wantHolds(t, op, a, l[k], want)
			}
		}
	}
}

func TestHolds1OneField(t *testing.T) {
	for _, v := range append(fewVals(), goodVals()[20000:20010]...) {
		for _, other := range oneFieldApart(v) {
			for _, op := range append(allOps(), wrongOps()...) {
				wantHolds(t, op, v, other, plainHolds(op, v, other))
				wantHolds(t, op, other, v, plainHolds(op, other, v))
			}
		}
		same := impl.Val{Ty: v.Ty, N: v.N, S: strings.Clone(v.S)}
		for _, op := range append(allOps(), wrongOps()...) {
			wantHolds(t, op, v, same, op == cpMost || op == cpSame || op == cpLeast)
		}
	}
}

func TestMayHold1Table(t *testing.T) {
	one, some, texts, both := zoneFrom(intOf(5), intOf(5)), zoneFrom(intOf(2), intOf(6)), zoneFrom(textOf("a"), textOf("abc")), zoneFrom(intOf(4), textOf("k"))
	turned := zoneFrom(intOf(6), intOf(2))
	for _, c := range []struct {
		z    impl.Zone
		v    impl.Val
		want string
	}{
		{one, intOf(5), "011010"}, {one, intOf(4), "000111"}, {one, intOf(6), "110100"}, {one, textOf("5"), "110100"}, {one, textOf(""), "110100"}, {one, impl.Val{}, "000111"},
		{some, intOf(1), "000111"}, {some, intOf(2), "011111"}, {some, intOf(3), "111111"}, {some, intOf(6), "111110"}, {some, intOf(7), "110100"}, {some, textOf("3"), "110100"}, {some, impl.Val{N: 3}, "000111"},
		{texts, textOf(""), "000111"}, {texts, textOf("a"), "011111"}, {texts, textOf("ab"), "111111"}, {texts, textOf("abc"), "111110"}, {texts, textOf("abcd"), "110100"}, {texts, textOf("b"), "110100"}, {texts, intOf(mostNum), "000111"},
		{both, intOf(3), "000111"}, {both, intOf(4), "011111"}, {both, intOf(mostNum), "111111"}, {both, textOf(""), "111111"}, {both, textOf("k"), "111110"}, {both, textOf("ka"), "110100"},
		{turned, intOf(1), "000111"}, {turned, intOf(2), "000110"}, {turned, intOf(4), "000100"}, {turned, intOf(6), "010100"}, {turned, intOf(7), "110100"},
		{impl.Zone{}, impl.Val{}, "011010"}, {impl.Zone{}, intOf(0), "110100"}, {impl.Zone{}, intOf(-mostNum), "110100"}, {impl.Zone{}, textOf(""), "110100"}, {impl.Zone{}, impl.Val{Ty: -1}, "000111"}, {impl.Zone{}, impl.Val{N: 1}, "110100"}, {impl.Zone{}, impl.Val{S: "a"}, "110100"},
	} {
		wantMays(t, c.z, c.v, c.want)
		wantPlainMays(t, c.z, c.v)
	}
}

// TestMayHold1SingleValue has zones of one value, where each operator may hold exactly if it holds for
// this value.
func TestMayHold1SingleValue(t *testing.T) {
	good := goodVals()
	for _, v := range slices.Concat(fewVals(), good[19990:20010], good[len(good)-20:]) {
		z := impl.ZoneOf([]impl.Val{v})
		wantMays(t, z, v, "011010")
		for _, other := range append(oneFieldApart(v), fewVals()...) {
			wantPlainMays(t, z, other)
			for _, op := range allOps() {
				wantMayHold(t, op, z, other, impl.Holds1(op, v, other))
			}
		}
		for _, other := range oneFieldApart(v) {
			if orderPlainly(v, other) < 0 {
				wantMays(t, z, other, "110100")
			} else {
				wantMays(t, z, other, "000111")
			}
		}
	}
}

// TestMayHold1Else has zones of which only one end equals v, and the other differs in one field only.
func TestMayHold1Else(t *testing.T) {
	for _, v := range fewVals() {
		wantMayHold(t, cpElse, zoneFrom(v, v), v, false)
		wantMayHold(t, cpElse, zoneFrom(v, impl.Val{Ty: v.Ty, N: v.N, S: strings.Clone(v.S)}), v, false)
		for _, other := range oneFieldApart(v) {
			wantMayHold(t, cpElse, zoneFrom(v, other), v, true)
			wantMayHold(t, cpElse, zoneFrom(other, v), v, true)
			wantMayHold(t, cpElse, zoneFrom(other, other), v, true)
			for _, op := range allOps() {
				wantMayHold(t, op, zoneFrom(v, other), v, plainMayHold(op, zoneFrom(v, other), v))
				wantMayHold(t, op, zoneFrom(other, v), v, plainMayHold(op, zoneFrom(other, v), v))
			}
		}
	}
}

// TestMayHold1AllZones has all zones of some values, also those whose Lo is greater than their Hi.
func TestMayHold1AllZones(t *testing.T) {
	l := fewVals()
	for i, lo := range l {
		for k, hi := range l {
			z := zoneFrom(lo, hi)
			for _, v := range l[(i+k)%3:] {
				wantPlainMays(t, z, v)
			}
			wantNoOpMays(t, z, l[(i+k)%len(l)])
			wantNoOpMays(t, z, lo)
		}
	}
	far := risingVals()
	for i, v := range far {
		wantPlainMays(t, zoneFrom(far[i*7%len(far)], far[i*11%len(far)]), v)
		wantPlainMays(t, zoneFrom(v, far[i*5%len(far)]), v)
		wantPlainMays(t, zoneFrom(far[i*5%len(far)], v), v)
	}
}

// TestHoldsSoMayHold is P10 for all zones of some values.
func TestHoldsSoMayHold(t *testing.T) {
	l := fewVals()[12:52]
	for _, lo := range l {
		for _, hi := range l {
			z := zoneFrom(lo, hi)
			for _, a := range l {
				if !impl.InZone(z, a) {
					continue
				}
				for _, b := range l {
					for _, op := range allOps() {
						if impl.Holds1(op, a, b) && !impl.MayHold1(op, z, b) {
							t.Fatalf("%v lies in %v, and operator %d holds for it and %v, but may not hold", a, z, op, b)
						}
					}
				}
			}
		}
	}
}

// TestHoldsSoMayHoldInLists is P10 for the zones of lists.
func TestHoldsSoMayHoldInLists(t *testing.T) {
	for _, l := range zoneLists() {
		z := impl.ZoneOf(l)
		some := l[:min(len(l), mostVals+1)]
		for _, b := range slices.Concat(some, []impl.Val{z.Lo, z.Hi, {}, {Ty: 3}, intOf(0), intOf(3), textOf(""), textOf("m")}) {
			for _, a := range some {
				for _, op := range allOps() {
					if impl.Holds1(op, a, b) && !impl.MayHold1(op, z, b) {
						t.Fatalf("operator %d holds for %v of %d values and %v, but may not hold in %v", op, a, len(l), b, z)
					}
				}
			}
		}
	}
}

// TestMayHoldOnlyIfSomeValue checks that a zone is not wider than it must be: if an operator may hold,
// it holds for Lo, for Hi, or for v itself where that lies in the zone.
func TestMayHoldOnlyIfSomeValue(t *testing.T) {
	l := fewVals()
	for i, lo := range l {
		for _, hi := range l[i:] {
			z := zoneFrom(lo, hi)
			for _, v := range l {
				for _, op := range allOps() {
					want := plainHolds(op, lo, v) || plainHolds(op, hi, v) || plainInZone(z, v) && plainHolds(op, v, v)
					wantMayHold(t, op, z, v, want)
				}
			}
		}
	}
}

func TestOpposite(t *testing.T) {
	for i, want := range []int{cpLeast, cpMore, cpElse, cpSame, cpLess, cpMost} {
		if got := impl.Opposite(i + 1); got != want {
			t.Errorf("Opposite(%d) = %d, want %d", i+1, got, want)
		}
		if got := impl.Opposite(want); got != i+1 {
			t.Errorf("Opposite(%d) = %d, want %d", want, got, i+1)
		}
	}
	for _, op := range wrongOps() {
		if got := impl.Opposite(op); got != 0 {
			t.Errorf("Opposite(%d) = %d, want 0", op, got)
		}
	}
	for op := -70000; op <= 70000; op++ {
		if got := impl.Opposite(op); (got != 0) != (op >= cpLess && op <= cpMore) {
			t.Errorf("Opposite(%d) = %d", op, got)
		}
	}
}

// TestOppositeHoldsElse checks that an operator holds exactly where its opposite does not.
func TestOppositeHoldsElse(t *testing.T) {
	l := risingVals()
	for i, a := range l {
		for k := i % 13; k < len(l); k += 13 {
			for _, op := range allOps() {
				if impl.Holds1(op, a, l[k]) == impl.Holds1(impl.Opposite(op), a, l[k]) {
					t.Fatalf("the operators %d and %d both hold, or both do not, for %v and %v", op, impl.Opposite(op), a, l[k])
				}
			}
		}
	}
	for _, op := range wrongOps() {
		wantHolds(t, impl.Opposite(op), intOf(1), intOf(2), false)
	}
}

// TestOppositeMayHold checks that of an operator and its opposite at least one may hold, unless no
// value lies in the zone.
func TestOppositeMayHold(t *testing.T) {
	l := fewVals()
	for i, lo := range l {
		for _, hi := range l[i:] {
			for _, v := range l {
				for _, op := range allOps() {
					z := zoneFrom(lo, hi)
					if !impl.MayHold1(op, z, v) && !impl.MayHold1(impl.Opposite(op), z, v) {
						t.Fatalf("neither operator %d nor its opposite may hold in %v for %v", op, z, v)
					}
				}
			}
		}
	}
}

func TestOpText(t *testing.T) {
	for i, want := range []string{"<", "<=", "=", "!=", ">=", ">"} {
		if got := impl.OpText(i + 1); got != want {
			t.Errorf("OpText(%d) = %+v, want %+v", i+1, got, want)
		}
	}
	for _, op := range wrongOps() {
		if got := impl.OpText(op); got != "" {
			t.Errorf("OpText(%d) = %+v, want none", op, got)
		}
	}
	for op := -70000; op <= 70000; op++ {
		if got := impl.OpText(op); (got != "") != (op >= cpLess && op <= cpMore) {
			t.Errorf("OpText(%d) = %+v", op, got)
		}
	}
}

func TestInZoneTable(t *testing.T) {
	for _, c := range []struct {
		lo, hi, v impl.Val
		want      bool
	}{
		{intOf(2), intOf(6), intOf(1), false}, {intOf(2), intOf(6), intOf(2), true}, {intOf(2), intOf(6), intOf(4), true}, {intOf(2), intOf(6), intOf(6), true}, {intOf(2), intOf(6), intOf(7), false},
		{intOf(5), intOf(5), intOf(4), false}, {intOf(5), intOf(5), intOf(5), true}, {intOf(5), intOf(5), intOf(6), false}, {intOf(-mostNum), intOf(mostNum), intOf(0), true},
		{intOf(6), intOf(2), intOf(2), false}, {intOf(6), intOf(2), intOf(4), false}, {intOf(6), intOf(2), intOf(6), false}, {intOf(6), intOf(2), intOf(9), false}, {intOf(6), intOf(2), intOf(0), false},
		{textOf("a"), textOf("ab"), textOf("a"), true}, {textOf("a"), textOf("ab"), textOf("aa"), true}, {textOf("a"), textOf("ab"), textOf("abc"), false}, {textOf("a"), textOf("ab"), textOf(""), false},
		{intOf(2), intOf(6), textOf("4"), false}, {textOf("2"), textOf("6"), intOf(4), false}, {intOf(2), textOf("b"), intOf(mostNum), true}, {intOf(2), textOf("b"), textOf("b"), true}, {intOf(2), textOf("b"), textOf("b0"), false},
		{impl.Val{}, impl.Val{}, impl.Val{}, true}, {impl.Val{}, impl.Val{}, intOf(0), false}, {impl.Val{}, impl.Val{}, textOf(""), false}, {impl.Val{}, impl.Val{}, impl.Val{N: -1}, false}, {impl.Val{}, impl.Val{}, impl.Val{S: "a"}, false},
		{intOf(2), intOf(6), impl.Val{Ty: tyInt, N: 6, S: "a"}, false}, {intOf(2), intOf(6), impl.Val{Ty: tyInt, N: 2, S: "a"}, true}, {intOf(2), intOf(6), impl.Val{}, false},
	} {
		wantInZone(t, zoneFrom(c.lo, c.hi), c.v, c.want)
		wantMayHold(t, cpSame, zoneFrom(c.lo, c.hi), c.v, c.want)
	}
}

// TestInZoneTurned has zones whose Lo is greater than their Hi, in which no value lies.
func TestInZoneTurned(t *testing.T) {
	l := fewVals()
	for i, hi := range l {
		for _, lo := range l[i+1:] {
			for _, v := range l {
				wantInZone(t, zoneFrom(lo, hi), v, false)
				wantMayHold(t, cpSame, zoneFrom(lo, hi), v, false)
			}
		}
	}
}

func TestZoneMemory(t *testing.T) {
	for _, values := range zoneLists() {
		for _, mark := range []impl.Val{{Ty: -9, N: -9}, {Ty: 9, N: 9, S: "mark"}} {
			l, check := spare(t, mark, values...)
			z := impl.ZoneOf(l)
			check("ZoneOf")
			scribble(l, textOf("gone"))
			if z != plainZone(values) {
				t.Fatalf("ZoneOf, its argument overwritten: %v, want %v", z, plainZone(values))
			}
		}
	}
}

func TestZoneStaysTheSame(t *testing.T) {
	l := intsOf(3, 1, 2)
	for range 3 {
		wantZone(t, l, intOf(1), intOf(3))
		wantZone(t, nil, impl.Val{}, impl.Val{})
		z := impl.ZoneOf(l)
		for _, v := range append(fewVals(), l...) {
			wantPlainMays(t, z, v)
			wantNoOpMays(t, z, v)
		}
		if z != impl.ZoneOf(intsOf(3, 1, 2)) || !slices.Equal(l, intsOf(3, 1, 2)) {
			t.Errorf("the zone of %v is %v", l, z)
		}
	}
}
