package tests

import (
	"math"
	"slices"
	"strconv"
	"testing"

	"loop.example/g00496/impl"
)

const claimed = -1

// fewCells returns integers around every border that the document names, and around those of fewer
// bits, in ascending order.
func fewCells() []int {
	out := []int{}
	for _, n := range []int{
		math.MinInt + 2, -1 << 62, -1 << 40, -1 << 32, -1 << 31, -mostNum, -1 << 16, -1 << 15, -1 << 8, -1 << 7, -10, 0,
		10, 1 << 7, 1 << 8, 1 << 15, 1 << 16, mostNum, 1 << 31, 1 << 32, 1 << 40, 1 << 53, 1 << 62, math.MaxInt - 2,
	} {
		out = append(out, n-2, n-1, n, n+1, n+2)
	}
	return out
}

// plainOk accepts the three kinds of cells. It and the plain functions that follow are the document's
// words, apart from the program.
func plainOk(n int) bool {
	return n == claimed || n == 0 || n > 0
}

func plainClaim(n int) (int, bool) {
	if n == 0 {
		return claimed, true
	}
	return n, false
}

func plainStamp(n, s int) (int, bool) {
	if n == claimed && s > 0 {
		return s, true
	}
	return n, false
}

func plainCame(n, ts int) bool {
	return n > 0 && !(n > ts)
}

func plainCellText(n int) string {
	special := map[int]string{0: "-", claimed: "?"}
	if s, ok := special[n]; ok {
		return s
	}
	return strconv.FormatInt(int64(n), 10)
}

func wantCellOk(t *testing.T, n int, want bool) {
	t.Helper()
	if got := impl.CellOk(n); got != want {
		t.Fatalf("CellOk(%d) = %v, want %v", n, got, want)
	}
}

func wantClaim(t *testing.T, n, want int, wantOk bool) {
	t.Helper()
	if got, ok := impl.Claim(n); got != want || ok != wantOk {
		t.Fatalf("Claim(%d) = %d, %v, want %d, %v", n, got, ok, want, wantOk)
	}
}

func wantStamp(t *testing.T, n, s, want int, wantOk bool) {
	t.Helper()
	if got, ok := impl.Stamp(n, s); got != want || ok != wantOk {
		t.Fatalf("Stamp(%d, %d) = %d, %v, want %d, %v", n, s, got, ok, want, wantOk)
	}
}

func wantCame(t *testing.T, n, ts int, want bool) {
	t.Helper()
	if got := impl.Came(n, ts); got != want {
		t.Fatalf("Came(%d, %d) = %v, want %v", n, ts, got, want)
	}
}

func wantLives(t *testing.T, ins, del, ts int, want bool) {
	t.Helper()
	if got := impl.Lives(ins, del, ts); got != want {
		t.Fatalf("Lives(%d, %d, %d) = %v, want %v", ins, del, ts, got, want)
	}
}

func wantNeedsHelp(t *testing.T, n int, want bool) {
	t.Helper()
	if got := impl.NeedsHelp(n); got != want {
		t.Fatalf("NeedsHelp(%d) = %v, want %v", n, got, want)
	}
}

func wantCellText(t *testing.T, n int, want string) {
	t.Helper()
	if got := impl.CellText(n); got != want {
		t.Fatalf("CellText(%d) = %q, want %q", n, got, want)
	}
}

func TestFewCellsAscend(t *testing.T) {
	l := fewCells()
	if !slices.IsSorted(l) || l[0] != math.MinInt || l[len(l)-1] != math.MaxInt {
		t.Fatal("the cells are not in ascending order from the least to the greatest integer")
	}
	for _, n := range []int{claimed - 1, claimed, 0, 1, mostNum, mostNum + 1} {
		if !slices.Contains(l, n) {
			t.Fatal(n)
		}
	}
}

func TestClaimedConst(t *testing.T) {
	if impl.Claimed != claimed {
		t.Error(impl.Claimed)
	}
}

func TestCellOk(t *testing.T) {
	for _, n := range []int{claimed, 0, 1, 2, 3, 64, 100, mostNum - 1, mostNum, mostNum + 1, 1 << 31, 1<<32 - 1, 1 << 32, 1 << 62, math.MaxInt - 1, math.MaxInt} {
		wantCellOk(t, n, true)
	}
	for _, n := range []int{claimed - 1, -3, -4, -64, -100, -mostNum, -mostNum - 1, -1 << 31, -1 << 32, -1<<32 + 1, -1 << 62, math.MinInt + 1, math.MinInt} {
		wantCellOk(t, n, false)
	}
	for _, n := range slices.Concat(sampleNums(), beyondNums(), fewCells()) {
		wantCellOk(t, n, plainOk(n))
	}
}

func TestClaim(t *testing.T) {
	wantClaim(t, 0, claimed, true)
	for _, n := range []int{claimed, claimed - 1, -3, 1, 2, 3, mostNum, mostNum + 1, -mostNum, 1 << 32, -1 << 32, 1 << 62, math.MaxInt, math.MinInt} {
		wantClaim(t, n, n, false)
	}
	for _, n := range slices.Concat(sampleNums(), beyondNums(), fewCells()) {
		want, ok := plainClaim(n)
		wantClaim(t, n, want, ok)
	}
}

func TestClaimTwice(t *testing.T) {
	n, ok := impl.Claim(0)
	if !ok {
		t.Fatal("an empty cell was not claimed")
	}
	for range 3 {
		wantClaim(t, n, claimed, false)
		n, _ = impl.Claim(n)
	}
	// The cell that was claimed in vain can still be stamped, once.
	n, ok = impl.Stamp(n, 5)
	if n != 5 || !ok {
		t.Fatal(n, ok)
	}
	wantClaim(t, n, 5, false)
	wantStamp(t, n, 6, 5, false)
	wantStamp(t, n, 5, 5, false)
}

func TestClaimOfStamped(t *testing.T) {
	for _, s := range fewCells() {
		n, ok := impl.Stamp(claimed, s)
		if ok {
			wantClaim(t, n, s, false)
		}
	}
}

func TestStamp(t *testing.T) {
	for _, s := range []int{1, 2, 3, 64, 100, mostNum - 1, mostNum, mostNum + 1, 1 << 31, 1 << 32, 1 << 40, 1 << 62, math.MaxInt - 1, math.MaxInt} {
		wantStamp(t, claimed, s, s, true)
	}
	for _, s := range []int{0, claimed, -2, -3, -mostNum, -mostNum - 1, -1 << 31, -1 << 32, 1 - 1<<32, -1 << 62, math.MinInt + 1, math.MinInt} {
		wantStamp(t, claimed, s, claimed, false)
	}
	for _, n := range []int{0, claimed - 1, -3, 1, 2, 7, mostNum, mostNum + 1, -mostNum, 1<<32 - 1, -1 - 1<<32, 1 << 62, math.MaxInt, math.MinInt} {
		for _, s := range []int{claimed, 0, 1, 2, 7, 8, mostNum, math.MaxInt, math.MinInt, n} {
			wantStamp(t, n, s, n, false)
		}
	}
}

func TestStampPlainly(t *testing.T) {
	for _, n := range fewCells() {
		for _, s := range fewCells() {
			want, ok := plainStamp(n, s)
			wantStamp(t, n, s, want, ok)
		}
	}
	for _, s := range slices.Concat(sampleNums(), beyondNums()) {
		want, ok := plainStamp(claimed, s)
		wantStamp(t, claimed, s, want, ok)
		wantStamp(t, s, 7, plainStamped(s, 7), s == claimed)
	}
}

func plainStamped(n, s int) int {
	n, _ = plainStamp(n, s)
	return n
}

func TestStampTwice(t *testing.T) {
	for _, first := range []int{1, 2, 64, mostNum, mostNum + 1, 1 << 62, math.MaxInt} {
		n, ok := impl.Stamp(claimed, first)
		if n != first || !ok {
			t.Fatal(n, ok)
		}
		for _, s := range []int{claimed, 0, 1, 2, first - 1, first, mostNum, math.MaxInt, math.MinInt} {
			wantStamp(t, n, s, first, false)
		}
	}
}

// cellStep claims a cell, or stamps it with s.
type cellStep struct {
	stamp bool
	s     int
}

func (x cellStep) taken(n int) (int, bool) {
	if x.stamp {
		return impl.Stamp(n, x.s)
	}
	return impl.Claim(n)
}

func (x cellStep) takenPlainly(n int) (int, bool) {
	if x.stamp {
		return plainStamp(n, x.s)
	}
	return plainClaim(n)
}

// wantOnce takes the steps one after the other and counts those that succeed: at most one claim and
// one stamp, which comes after it.
func wantOnce(t *testing.T, n int, steps []cellStep) {
	t.Helper()
	claims, stamps, first := 0, 0, n
	for _, x := range steps {
		want, wantOk := x.takenPlainly(n)
		got, ok := x.taken(n)
		if got != want || ok != wantOk {
			t.Fatalf("%+v of %d, from %d by %+v, = %d, %v, want %d, %v", x, n, first, steps, got, ok, want, wantOk)
		}
		if !ok && got != n {
			t.Fatalf("%+v failed, but made %d of %d", x, got, n)
		}
		if ok && x.stamp {
			stamps++
		} else if ok {
			claims++
		}
		n = got
	}
	if claims > 1 || stamps > 1 || first == 0 && stamps > claims || first > 0 && n != first {
		t.Fatalf("%d claims and %d stamps from %d to %d by %+v", claims, stamps, first, n, steps)
	}
}

func TestStepsInAnyOrder(t *testing.T) {
	choices := []cellStep{{}, {stamp: true}, {stamp: true, s: claimed}, {stamp: true, s: 1}, {stamp: true, s: 4}, {stamp: true, s: math.MaxInt}}
	lists := [][]cellStep{{}}
	for k := 0; k < len(lists); k++ {
		for _, n := range []int{0, claimed, claimed - 1, 1, 3, 4, math.MaxInt, math.MinInt} {
			wantOnce(t, n, lists[k])
		}
		if len(lists[k]) < 5 {
			for _, x := range choices {
				lists = append(lists, append(slices.Clone(lists[k]), x))
			}
		}
	}
}

func TestCame(t *testing.T) {
	for _, c := range []struct {
		n, ts int
		want  bool
	}{
		{4, 4, true}, {4, 3, false}, {4, 5, true}, {4, math.MaxInt, true}, {4, 0, false}, {4, -1, false}, {4, math.MinInt, false},
		{1, 1, true}, {1, 0, false}, {1, 2, true}, {1, -1, false},
		{0, 0, false}, {0, 1, false}, {0, -1, false}, {0, math.MaxInt, false}, {0, math.MinInt, false},
		{claimed, claimed, false}, {claimed, 0, false}, {claimed, 1, false}, {claimed, 9, false}, {claimed, -2, false}, {claimed, math.MaxInt, false},
		{claimed - 1, claimed - 1, false}, {claimed - 1, claimed, false}, {claimed - 1, 0, false}, {claimed - 1, 9, false}, {claimed - 1, math.MaxInt, false},
		{mostNum, mostNum, true}, {mostNum, mostNum - 1, false}, {mostNum + 1, mostNum, false}, {mostNum + 1, mostNum + 1, true},
		{1 << 32, 1, false}, {1<<32 + 1, 1, false}, {1, 1 << 32, true}, {2, 1<<32 + 1, true},
		{math.MaxInt, math.MaxInt, true}, {math.MaxInt, math.MaxInt - 1, false}, {math.MaxInt, -1, false}, {math.MaxInt, math.MinInt, false},
		{math.MinInt, math.MinInt, false}, {math.MinInt, 0, false}, {math.MinInt, math.MaxInt, false}, {math.MinInt + 1, math.MaxInt, false},
	} {
		wantCame(t, c.n, c.ts, c.want)
	}
}

func TestCamePlainly(t *testing.T) {
	for _, n := range fewCells() {
		for _, ts := range fewCells() {
			wantCame(t, n, ts, plainCame(n, ts))
		}
	}
	for _, n := range slices.Concat(sampleNums(), beyondNums()) {
		for _, ts := range []int{n, -1, 0, 1, mostNum, math.MinInt, math.MaxInt} {
			wantCame(t, n, ts, plainCame(n, ts))
		}
		if n > math.MinInt {
			wantCame(t, n, n-1, false)
		}
		if n < math.MaxInt {
			wantCame(t, n, n+1, n > 0)
		}
	}
}

// The times are ascending, so a cell that came by one of them must have come by all that follow.
func TestCameByLaterTimes(t *testing.T) {
	for _, n := range fewCells() {
		came := false
		for _, ts := range fewCells() {
			now := impl.Came(n, ts)
			if came && !now {
				t.Fatalf("%d came by an earlier time, but not by %d", n, ts)
			}
			came = now
		}
		if came != (n > 0) {
			t.Fatalf("%d came at last: %v", n, came)
		}
	}
}

// What was stamped came from its timestamp on; what was only claimed came at no time.
func TestCameAfterSteps(t *testing.T) {
	n, _ := impl.Claim(0)
	for _, ts := range fewCells() {
		wantCame(t, 0, ts, false)
		wantCame(t, n, ts, false)
		m, ok := impl.Stamp(n, ts)
		if !ok {
			continue
		}
		wantCame(t, m, ts, true)
		wantCame(t, m, ts-1, false)
		wantCame(t, m, math.MaxInt, true)
	}
}

func TestLives(t *testing.T) {
	const ts = 5
	// The cells before, at and after the time 5 come first; each row has the answers for a del of
	// before, at, after, 0, claimed, and two invalid cells.
	cells := []int{4, 5, 6, 0, claimed, claimed - 1, math.MinInt}
	for i, want := range []string{"0011111", "0011111", "0000000", "0000000", "0000000", "0000000", "0000000"} {
		for k, del := range cells {
			wantLives(t, cells[i], del, ts, want[k] == '1')
		}
	}
	for _, c := range []struct {
		ins, del, ts int
		want         bool
	}{
		{2, 0, 3, true}, {2, 3, 3, false}, {2, 4, 3, true}, {0, 0, 3, false}, {2, 2, 2, false}, {2, 3, 2, true}, {2, 3, 1, false},
		{3, 2, 2, false}, {3, 2, 3, false}, {3, 2, 1, false}, {1, 2, 1, true}, {1, 2, 0, false}, {1, 0, -1, false},
		{1, 0, math.MaxInt, true}, {1, math.MaxInt, math.MaxInt, false}, {1, math.MaxInt, math.MaxInt - 1, true},
		{math.MaxInt, 0, math.MaxInt, true}, {math.MaxInt, 0, math.MaxInt - 1, false}, {math.MaxInt, math.MaxInt, math.MaxInt, false},
		{1, math.MinInt, math.MaxInt, true}, {1, claimed, math.MaxInt, true}, {1, 0, math.MinInt, false},
		{math.MinInt, 0, math.MaxInt, false}, {claimed, 0, math.MaxInt, false}, {0, claimed, math.MaxInt, false}, {0, 0, 0, false},
		{claimed, claimed, claimed, false}, {-5, -6, -5, false}, {-5, 0, -5, false}, {mostNum, mostNum + 1, mostNum, true},
	} {
		wantLives(t, c.ins, c.del, c.ts, c.want)
	}
}

func TestLivesPlainly(t *testing.T) {
	for _, ts := range fewCells() {
		for _, ins := range fewCells() {
			for _, del := range fewCells() {
				wantLives(t, ins, del, ts, plainCame(ins, ts) && !plainCame(del, ts))
			}
		}
	}
}

// A row that is inserted and deleted lives from the one timestamp until just before the other.
func TestLivesBetween(t *testing.T) {
	for ins := 1; ins < 8; ins++ {
		for del := ins; del < 9; del++ {
			for ts := -2; ts < 12; ts++ {
				wantLives(t, ins, del, ts, ts >= ins && ts < del)
				wantLives(t, ins, 0, ts, ts >= ins)
				wantLives(t, ins, claimed, ts, ts >= ins)
			}
		}
	}
}

func TestNeedsHelp(t *testing.T) {
	wantNeedsHelp(t, claimed, true)
	for _, n := range []int{0, claimed - 1, 1, -3, mostNum, mostNum + 1, -mostNum, 255, 1<<31 - 1, 1<<32 - 1, -1 - 1<<32, math.MaxInt, math.MinInt} {
		wantNeedsHelp(t, n, false)
	}
	for _, n := range slices.Concat(sampleNums(), beyondNums(), fewCells()) {
		wantNeedsHelp(t, n, n == claimed)
	}
}

// A cell needs help exactly between its claim and its stamp.
func TestNeedsHelpBetweenSteps(t *testing.T) {
	n, _ := impl.Claim(0)
	wantNeedsHelp(t, n, true)
	n, _ = impl.Stamp(n, 0)
	wantNeedsHelp(t, n, true)
	n, _ = impl.Claim(n)
	wantNeedsHelp(t, n, true)
	n, _ = impl.Stamp(n, 1)
	wantNeedsHelp(t, n, false)
}

func TestCellText(t *testing.T) {
	for _, c := range []struct {
		n    int
		want string
	}{
		{0, "-"}, {claimed, "?"}, {claimed - 1, "-2"}, {-3, "-3"}, {1, "1"}, {5, "5"}, {9, "9"}, {10, "10"}, {100, "100"},
		{mostNum, "1000000000"}, {mostNum + 1, "1000000001"}, {-mostNum, "-1000000000"}, {-mostNum - 1, "-1000000001"},
		{1 << 32, "4294967296"}, {1<<32 - 1, "4294967295"}, {-1 << 32, "-4294967296"}, {1 << 62, "4611686018427387904"},
		{math.MaxInt - 1, "9223372036854775806"}, {math.MaxInt, "9223372036854775807"},
		{math.MinInt + 1, "-9223372036854775807"}, {math.MinInt, "-9223372036854775808"},
	} {
		wantCellText(t, c.n, c.want)
	}
	for _, n := range slices.Concat(sampleNums(), beyondNums(), fewCells()) {
		wantCellText(t, n, plainCellText(n))
	}
}

// The functions keep no state: what they return does not depend on the calls before.
func TestCellsStayTheSame(t *testing.T) {
	chance := fixedChance()
	l := fewCells()
	pick := func() int { return l[chance.IntN(len(l))] }
	for range 20000 {
		n, m, ts := pick(), pick(), pick()
		want, ok := plainClaim(n)
		wantClaim(t, n, want, ok)
		want, ok = plainStamp(n, ts)
		wantStamp(t, n, ts, want, ok)
		wantCame(t, n, ts, plainCame(n, ts))
		wantLives(t, n, m, ts, plainCame(n, ts) && !plainCame(m, ts))
		wantNeedsHelp(t, n, n == claimed)
		wantCellOk(t, n, plainOk(n))
		wantCellText(t, n, plainCellText(n))
	}
}
