package tests

import (
	"math"
	"slices"
	"strconv"
	"strings"
	"testing"

	"loop.example/g00496/impl"
)

const mostCols = 3

func rowOf(id int, l ...impl.Val) impl.Row {
	return impl.Row{Id: id, L: l}
}

// valOf returns a valid value of this type that differs from column to column.
func valOf(ty int, k int) impl.Val {
	if ty == tyInt {
		return intOf(5 - 3*k)
	}
	return textOf("x" + strconv.Itoa(k))
}

func valsOf(cols ...int) []impl.Val {
	var out []impl.Val
	for k, ty := range cols {
		out = append(out, valOf(ty, k))
	}
	return out
}

// listsOf returns all lists of at most most elements of the given ones.
func listsOf[E any](most int, elements ...E) [][]E {
	out := [][]E{{}}
	for from := 0; most > 0; most-- {
		end := len(out)
		for _, l := range out[from:end] {
			for _, e := range elements {
				out = append(out, append(slices.Clone(l), e))
			}
		}
		from = end
	}
	return out
}

// goodCols returns all valid lists of column types.
func goodCols() [][]int {
	return listsOf(mostCols, tyInt, tyText)[1:]
}

func wrongCols() [][]int {
	out := [][]int{nil, {}, {1, 1, 1, 1}, {2, 2, 2, 2}, {1, 2, 1, 2}, {1, 2, 1, 2, 1}, slices.Repeat([]int{1}, 64), slices.Repeat([]int{2}, 1<<16+1)}
	for _, ty := range wrongTypes() {
		for _, cols := range goodCols() {
			for k := range cols {
				wrong := slices.Clone(cols)
				wrong[k] = ty
				out = append(out, wrong)
			}
		}
	}
	return out
}

// fitsPlainly checks the document's conditions one by one, apart from the program.
func fitsPlainly(cols []int, l []impl.Val) bool {
	for k := range max(len(cols), len(l)) {
		if k >= len(cols) || k >= len(l) {
			return false
		}
		v := l[k]
		isInt := v.Ty == tyInt && v.S == "" && v.N >= -mostNum && v.N <= mostNum
		isText := v.Ty == tyText && v.N == 0 && plainText.MatchString(v.S)
		if !isInt && !isText || v.Ty != cols[k] {
			return false
		}
	}
	return true
}

func wantFits(t *testing.T, cols []int, l []impl.Val, want bool) {
	t.Helper()
	if got := impl.FitsCols(cols, l); got != want {
		t.Errorf("FitsCols(%v, %v) = %v, want %v", cols, l, got, want)
	}
	for _, id := range []int{0, 7, mostNum + 1, math.MaxInt} {
		if got := impl.RowOk(cols, impl.Row{Id: id, L: l}); got != want {
			t.Errorf("RowOk(%v, %v) with the Id %d = %v, want %v", cols, l, id, got, want)
		}
	}
	for _, id := range []int{-1, -2, -mostNum - 1, math.MinInt} {
		if impl.RowOk(cols, impl.Row{Id: id, L: l}) {
			t.Errorf("RowOk(%v, %v) with the Id %d is true", cols, l, id)
		}
	}
}

func TestMaxCols(t *testing.T) {
	if impl.MaxCols != mostCols {
		t.Error(impl.MaxCols)
	}
}

func TestColsOk(t *testing.T) {
	for _, cols := range goodCols() {
		if !impl.ColsOk(cols) {
			t.Errorf("ColsOk(%v) is false", cols)
		}
	}
	for _, cols := range wrongCols() {
		if impl.ColsOk(cols) {
			t.Errorf("ColsOk of %d elements %v is true", len(cols), cols[:min(len(cols), 5)])
		}
	}
	for _, cols := range listsOf(5, -1, 0, tyInt, tyText, 3) {
		want := len(cols) >= 1 && len(cols) <= mostCols && slices.Min(cols) >= 1 && slices.Max(cols) <= 2
		if impl.ColsOk(cols) != want {
			t.Errorf("ColsOk(%v) is not %v", cols, want)
		}
	}
}

func TestColsOkWithinCapacity(t *testing.T) {
	l := []int{1, 2, 1, 2, 3}
	for k, want := range []bool{false, true, true, true, false, false} {
		if impl.ColsOk(l[:k]) != want {
			t.Errorf("ColsOk(%v) of capacity %d is not %v", l[:k], cap(l), want)
		}
	}
}

// TestFitsColsCount changes the number of values alone: the values that there are have the right types.
func TestFitsColsCount(t *testing.T) {
	for _, cols := range goodCols() {
		l := valsOf(cols...)
		wantFits(t, cols, l, true)
		wantFits(t, cols, nil, false)
		wantFits(t, cols, []impl.Val{}, false)
		wantFits(t, cols, l[:len(l)-1], false)
		wantFits(t, cols, l[1:], false)
		for _, more := range []impl.Val{intOf(0), textOf(""), valOf(cols[0], 9), l[len(l)-1], {}} {
			wantFits(t, cols, append(slices.Clone(l), more), false)
			wantFits(t, cols, append(slices.Clone(l), more, more), false)
			wantFits(t, cols, append([]impl.Val{more}, l...), false)
		}
		wantFits(t, cols, slices.Repeat(l, 2), false)
		wantFits(t, cols, slices.Repeat(l, 64), false)
	}
}

// TestFitsColsOneValue changes a single value, in the first column, the last one and the one between.
func TestFitsColsOneValue(t *testing.T) {
	for _, cols := range goodCols() {
		for k, ty := range cols {
			for _, v := range []impl.Val{
				valOf(3-ty, k), {}, {Ty: 3}, {Ty: -1}, {Ty: ty + 1<<32}, {Ty: ty + 1<<8},
				{Ty: ty, N: 4, S: "a"}, {Ty: ty, N: mostNum + 1}, {Ty: ty, N: -mostNum - 1}, {Ty: ty, S: "seven77"}, {Ty: ty, S: "A"}, {Ty: ty, S: "a b"},
			} {
				l := valsOf(cols...)
				l[k] = v
				wantFits(t, cols, l, false)
			}
			for _, v := range []impl.Val{intOf(0), intOf(mostNum), intOf(-mostNum), textOf(""), textOf("sixsix")} {
				l := valsOf(cols...)
				l[k] = v
				wantFits(t, cols, l, v.Ty == ty)
			}
		}
	}
}

func TestFitsColsWrongValues(t *testing.T) {
	for _, v := range wrongVals() {
		if impl.FitsCols([]int{v.Ty}, []impl.Val{v}) || impl.FitsCols([]int{1, v.Ty}, []impl.Val{intOf(1), v}) || impl.FitsCols([]int{v.Ty, 2}, []impl.Val{v, textOf("a")}) {
			t.Errorf("Ty %d, N %d, S %.40q fits", v.Ty, v.N, v.S)
		}
	}
}

// TestFitsColsOfWrongCols follows the chapter, which asks for the number and the types alone: a list of
// columns need not be valid, and no value of a wrong type is.
func TestFitsColsOfWrongCols(t *testing.T) {
	wantFits(t, nil, nil, true)
	wantFits(t, nil, []impl.Val{}, true)
	wantFits(t, []int{}, nil, true)
	wantFits(t, []int{}, []impl.Val{}, true)
	wantFits(t, nil, []impl.Val{intOf(1)}, false)
	wantFits(t, []int{}, []impl.Val{textOf("a")}, false)
	wantFits(t, nil, []impl.Val{{}}, false)
	for _, cols := range wrongCols() {
		l := valsOf(cols...)
		wantFits(t, cols, l, len(cols) == 0 || len(cols) > mostCols)
		wantFits(t, cols, nil, len(cols) == 0)
		wantFits(t, cols, append(slices.Clone(l), intOf(1)), false)
		for k, ty := range cols[:min(len(cols), 5)] {
			same := slices.Clone(l)
			same[k] = impl.Val{Ty: ty}
			wantFits(t, cols, same, fitsPlainly(cols, same))
		}
	}
}

func TestFitsColsAllShort(t *testing.T) {
	lists := listsOf(4, intOf(5), textOf("a"), impl.Val{Ty: tyInt, S: "a"}, impl.Val{Ty: tyText, N: 1}, impl.Val{}, impl.Val{Ty: 3})
	for _, cols := range listsOf(4, 0, tyInt, tyText, 3) {
		for _, l := range lists {
			want := fitsPlainly(cols, l)
			if impl.FitsCols(cols, l) != want || impl.RowOk(cols, impl.Row{L: l}) != want || impl.RowOk(cols, impl.Row{Id: -1, L: l}) {
				t.Fatalf("FitsCols(%v, %v) is not %v, or RowOk is wrong", cols, l, want)
			}
		}
	}
}

func TestFitsColsWithinCapacity(t *testing.T) {
	cols := []int{1, 2, 1, 2}
	l := valsOf(cols...)
	for m := range len(cols) + 1 {
		for k := range len(l) + 1 {
			wantFits(t, cols[:m], l[:k], m == k)
		}
	}
}

// TestRowsThatFitHaveEveryColumn checks the promise by Column: one value of its type for every column,
// and none beyond.
func TestRowsThatFitHaveEveryColumn(t *testing.T) {
	lists := listsOf(4, intOf(-4), intOf(0), textOf(""), textOf("red"), impl.Val{}, intOf(mostNum+1))
	for _, cols := range goodCols() {
		fitting := 0
		for _, l := range lists {
			r := impl.Row{Id: 3, L: l}
			if !impl.RowOk(cols, r) {
				continue
			}
			fitting++
			for k, ty := range cols {
				if c := impl.Column([]impl.Row{r}, k); len(c) != 1 || c[0] != l[k] || c[0].Ty != ty || !impl.ValOk(c[0]) {
					t.Errorf("column %d of %v, which fits %v: %v", k, l, cols, c)
				}
			}
			if c := impl.Column([]impl.Row{r}, len(cols)); len(c) != 0 {
				t.Errorf("column %d of %v, which fits %v: %v", len(cols), l, cols, c)
			}
		}
		if fitting != 1<<len(cols) {
			t.Errorf("%d lists fit %v, want %d", fitting, cols, 1<<len(cols))
		}
	}
}

func TestRowOkTable(t *testing.T) {
	r := rowOf(7, intOf(3), textOf("a"))
	for _, c := range []struct {
		cols []int
		r    impl.Row
		want bool
	}{
		{[]int{1, 2}, r, true}, {[]int{2, 1}, r, false}, {[]int{1}, r, false}, {[]int{2}, r, false}, {[]int{1, 2, 1}, r, false}, {[]int{1, 2, 2}, r, false},
		{[]int{1, 1}, r, false}, {[]int{2, 2}, r, false}, {nil, r, false}, {[]int{1, 2}, rowOf(7), false}, {[]int{1}, rowOf(0), false},
		{[]int{1, 2}, rowOf(0, r.L...), true}, {[]int{1, 2}, rowOf(-1, r.L...), false}, {[]int{1, 2}, rowOf(math.MinInt, r.L...), false},
		{[]int{1, 2}, rowOf(mostNum+1, r.L...), true}, {[]int{1, 2}, rowOf(math.MaxInt, r.L...), true},
		{nil, rowOf(0), true}, {[]int{}, rowOf(7), true}, {nil, rowOf(-1), false}, {nil, impl.Row{}, true}, {[]int{1}, impl.Row{}, false},
	} {
		if got := impl.RowOk(c.cols, c.r); got != c.want {
			t.Errorf("RowOk(%v, %v) = %v, want %v", c.cols, c.r, got, c.want)
		}
	}
}

func wantSameRow(t *testing.T, a, b impl.Row, want bool) {
	t.Helper()
	if impl.SameRow(a, b) != want || impl.SameRow(b, a) != want {
		t.Errorf("SameRow(%v, %v) = %v and %v the other way round; want %v", a, b, impl.SameRow(a, b), impl.SameRow(b, a), want)
	}
	wantSameRows(t, []impl.Row{a}, []impl.Row{b}, want)
}

func wantSameRows(t *testing.T, a, b []impl.Row, want bool) {
	t.Helper()
	if impl.SameRows(a, b) != want || impl.SameRows(b, a) != want {
		t.Errorf("SameRows(%v, %v) = %v and %v the other way round; want %v", a, b, impl.SameRows(a, b), impl.SameRows(b, a), want)
	}
}

func TestSameRowTable(t *testing.T) {
	one, red := intOf(1), textOf("red")
	for _, c := range []struct {
		a, b impl.Row
		want bool
	}{
		{impl.Row{}, impl.Row{}, true}, {impl.Row{}, impl.Row{L: []impl.Val{}}, true}, {impl.Row{Id: 4}, impl.Row{Id: 4, L: []impl.Val{}}, true},
		{rowOf(4, one, red), rowOf(4, one, red), true}, {rowOf(-4, one), rowOf(-4, one), true}, {rowOf(4, impl.Val{}), rowOf(4, impl.Val{}), true},
		{rowOf(4, one, red), rowOf(5, one, red), false}, {rowOf(4, one), rowOf(-4, one), false}, {rowOf(4), rowOf(5), false}, {rowOf(0), rowOf(1 << 32), false},
		{rowOf(4, one), rowOf(4, one, red), false}, {rowOf(4, red), rowOf(4, one, red), false}, {rowOf(4), rowOf(4, one), false}, {rowOf(4), rowOf(4, impl.Val{}), false},
		{rowOf(4, one, red), rowOf(4, one, textOf("rec")), false}, {rowOf(4, one, red), rowOf(4, one, textOf("")), false}, {rowOf(4, one, red), rowOf(4, one, one), false},
		{rowOf(4, one, red), rowOf(4, intOf(2), red), false}, {rowOf(4, one, red), rowOf(4, red, one), false}, {rowOf(1), rowOf(0, one), false},
		{rowOf(4, intOf(0)), rowOf(4, textOf("")), false}, {rowOf(4, impl.Val{Ty: 3}), rowOf(4, impl.Val{Ty: 4}), false},
	} {
		wantSameRow(t, c.a, c.b, c.want)
	}
}

// changedRows returns rows that differ from r in one place each.
func changedRows(r impl.Row) []impl.Row {
	out := []impl.Row{
		{Id: r.Id + 1, L: r.L}, {Id: r.Id + 1<<32, L: r.L}, {Id: ^r.Id, L: r.L},
		{Id: r.Id, L: append(slices.Clone(r.L), impl.Val{})}, {Id: r.Id, L: append(slices.Clone(r.L), intOf(1))},
	}
	for k := range r.L {
		l := [4][]impl.Val{slices.Clone(r.L), slices.Clone(r.L), slices.Clone(r.L), slices.Delete(slices.Clone(r.L), k, k+1)}
		l[0][k].Ty++
		l[1][k].N++
		l[2][k].S += "0"
		for _, changed := range l {
			out = append(out, impl.Row{Id: r.Id, L: changed})
		}
	}
	return out
}

func TestSameRowOneField(t *testing.T) {
	for _, r := range []impl.Row{{}, rowOf(0, impl.Val{}), rowOf(7, intOf(3), textOf("a")), rowOf(-1, intOf(1), textOf(""), intOf(0)), rowOf(5, impl.Val{Ty: 9, N: 1, S: "Z"}, textOf("seven77"))} {
		wantSameRow(t, r, impl.Row{Id: r.Id, L: slices.Clone(r.L)}, true)
		for _, other := range changedRows(r) {
			wantSameRow(t, r, other, false)
		}
	}
}

func TestSameRows(t *testing.T) {
	a, b := rowOf(1, intOf(1)), rowOf(2, textOf("red"))
	for _, c := range []struct {
		a, b []impl.Row
		want bool
	}{
		{nil, nil, true}, {nil, []impl.Row{}, true}, {[]impl.Row{}, []impl.Row{}, true}, {[]impl.Row{{}}, []impl.Row{{L: []impl.Val{}}}, true},
		{[]impl.Row{a, b}, []impl.Row{a, b}, true}, {[]impl.Row{a, a}, []impl.Row{a, a}, true}, {nil, []impl.Row{{}}, false}, {[]impl.Row{}, []impl.Row{a}, false},
		{[]impl.Row{a}, []impl.Row{a, a}, false}, {[]impl.Row{a, b}, []impl.Row{a}, false}, {[]impl.Row{a, b}, []impl.Row{b}, false},
		{[]impl.Row{a, b}, []impl.Row{b, a}, false}, {[]impl.Row{a, b}, []impl.Row{a, a}, false}, {[]impl.Row{a, b}, []impl.Row{b, b}, false},
		{[]impl.Row{a, b, a}, []impl.Row{a, a, a}, false},
	} {
		wantSameRows(t, c.a, c.b, c.want)
	}
}

// TestSameRowsOneRow changes a single row in every place, the last one among them.
func TestSameRowsOneRow(t *testing.T) {
	r := rowOf(7, intOf(3), textOf("a"))
	for _, k := range []int{1, 2, 3, 12, 65} {
		a := slices.Repeat([]impl.Row{r}, k)
		wantSameRows(t, a, slices.Clone(a), true)
		wantSameRows(t, a, a[:k-1], false)
		wantSameRows(t, a, append(slices.Clone(a), r), false)
		wantSameRows(t, a, append(slices.Clone(a), impl.Row{}), false)
		for i := range k {
			for _, other := range changedRows(r) {
				b := slices.Clone(a)
				b[i] = other
				wantSameRows(t, a, b, false)
			}
		}
	}
}

func TestSameRowsWithinCapacity(t *testing.T) {
	l := []impl.Val{intOf(1), intOf(2), intOf(3)}
	m := []impl.Val{intOf(1), intOf(2), intOf(4)}
	wantSameRow(t, rowOf(1, l[:2]...), rowOf(1, m[:2]...), true)
	wantSameRow(t, rowOf(1, l[:2]...), rowOf(1, l...), false)
	wantSameRow(t, rowOf(1, l[:0]...), rowOf(1), true)
	a := []impl.Row{rowOf(1, l...), rowOf(2, l...)}
	b := []impl.Row{rowOf(1, l...), rowOf(3, l...)}
	wantSameRows(t, a[:1], b[:1], true)
	wantSameRows(t, a[:1], a, false)
	wantSameRows(t, a[:0], nil, true)
}

func TestRowTextTable(t *testing.T) {
	for _, c := range []struct {
		r    impl.Row
		want string
	}{
		{rowOf(7, intOf(3), textOf("a")), "#7 3 'a"}, {rowOf(0, intOf(0)), "#0 0"}, {rowOf(12, textOf("")), "#12 '"}, {rowOf(1, textOf(""), textOf("")), "#1 ' '"},
		{rowOf(105, intOf(-mostNum), textOf("seven7"), intOf(mostNum)), "#105 -1000000000 'seven7 1000000000"}, {rowOf(1, intOf(1), intOf(1)), "#1 1 1"},
		{impl.Row{}, "#0"}, {rowOf(7), "#7"}, {rowOf(-7), "#-7"}, {rowOf(-1, intOf(-1)), "#-1 -1"}, {rowOf(math.MaxInt), "#9223372036854775807"},
		{rowOf(math.MinInt, textOf("a")), "#-9223372036854775808 'a"}, {rowOf(mostNum + 1), "#1000000001"},
		{rowOf(7, impl.Val{}), "#7 "}, {rowOf(7, impl.Val{}, impl.Val{}), "#7  "}, {rowOf(7, impl.Val{}, intOf(3)), "#7  3"}, {rowOf(7, intOf(3), impl.Val{}), "#7 3 "},
		{rowOf(7, intOf(3), textOf("A"), textOf("b")), "#7 3  'b"}, {rowOf(7, intOf(mostNum+1), impl.Val{Ty: tyText, N: 1, S: "a"}), "#7  "},
		{rowOf(7, impl.Val{Ty: tyInt, N: 5, S: "a"}, textOf("seven77"), impl.Val{Ty: 3, N: 5}), "#7   "},
		{rowOf(3, intOf(1), intOf(2), intOf(3), intOf(4)), "#3 1 2 3 4"},
	} {
		if s := impl.RowText(c.r); s != c.want {
			t.Errorf("RowText(%v) = %q, want %q", c.r, s, c.want)
		}
	}
	if s := impl.RowText(rowOf(1, slices.Repeat([]impl.Val{textOf("ab")}, 5000)...)); s != "#1"+strings.Repeat(" 'ab", 5000) {
		t.Errorf("RowText of 5000 values has %d bytes", len(s))
	}
}

func TestRowTextWithinCapacity(t *testing.T) {
	l := []impl.Val{intOf(3), textOf("a"), intOf(4)}
	if s := impl.RowText(rowOf(7, l[:2]...)); s != "#7 3 'a" {
		t.Error(s)
	}
	if s := impl.RowText(rowOf(7, l[:0]...)); s != "#7" {
		t.Error(s)
	}
}

func wantVals(t *testing.T, s string, want ...impl.Val) {
	t.Helper()
	if l, ok := impl.ParseVals(s); !slices.Equal(l, want) || !ok {
		t.Errorf("ParseVals(%.60q) = %v, %v; want %v, true", s, l, ok, want)
	}
}

func wantNoVals(t *testing.T, s string) {
	t.Helper()
	if l, ok := impl.ParseVals(s); len(l) != 0 || ok {
		t.Errorf("ParseVals(%.60q) = %v, %v; want none, false", s, l, ok)
	}
}

// wantPlainVals parses by the document's grammar, from the last space to the first one, apart from the
// program.
func wantPlainVals(t *testing.T, s string) {
	t.Helper()
	var want []impl.Val
	end := len(s)
	for i := len(s) - 1; i >= -1; i-- {
		if i >= 0 && s[i] != ' ' {
			continue
		}
		v, ok := plainVal(s[i+1 : end])
		if !ok {
			wantNoVals(t, s)
			return
		}
		want = append([]impl.Val{v}, want...)
		end = i
	}
	wantVals(t, s, want...)
}

func TestParseValsTable(t *testing.T) {
	wantVals(t, "3 'a", intOf(3), textOf("a"))
	wantVals(t, "0", intOf(0))
	wantVals(t, "-4", intOf(-4))
	wantVals(t, "'", textOf(""))
	wantVals(t, "' '", textOf(""), textOf(""))
	wantVals(t, "' 1", textOf(""), intOf(1))
	wantVals(t, "1 '", intOf(1), textOf(""))
	wantVals(t, "'red 1000000000 -1000000000", textOf("red"), intOf(mostNum), intOf(-mostNum))
	wantVals(t, "1 1 1", intOf(1), intOf(1), intOf(1))
	wantVals(t, "1 2 3 4", intOf(1), intOf(2), intOf(3), intOf(4))
	wantVals(t, "'a 'b 'c 'd 'e", textOf("a"), textOf("b"), textOf("c"), textOf("d"), textOf("e"))
	for _, k := range []int{1, 2, 3, 4, 64, 65, 5000} {
		wantVals(t, strings.Repeat("-7 ", k-1)+"-7", slices.Repeat([]impl.Val{intOf(-7)}, k)...)
	}
}

func TestParseValsRejects(t *testing.T) {
	for _, s := range []string{
		"", " ", "  ", "   ", " 1", "1 ", " 1 ", "  1", "1  ", "1  2", "1   2", "' ", " '", "'  '", " ' '", "3  'a", "1 2  3", "1  2 3", "1 2 3 ", " 1 2 3",
		"x", "1 x", "x 1", "1 x 2", "1 2 007", "007 1 2", "1 'A 2", "'seven77 1", "1 'seven77", "1 1000000001", "-1000000001 1", "1 -0", "+1 1", "1 - 2", "1 'a' 2",
		"1,2", "1, 2", "1\t2", "1\n2", "1 2\n", "1 \n2", "\n1", "1\r\n", "1\x00", "1\u00a02", "1\u30002", "#7 3 'a", "#7", "''", "1 ''", "\" 1",
		strings.Repeat(" ", 100000), strings.Repeat("1 ", 5000), strings.Repeat("1 ", 5000) + "x", "x" + strings.Repeat(" 1", 5000),
	} {
		wantNoVals(t, s)
	}
	for _, s := range wrongTexts() {
		wantPlainVals(t, "1 '"+s)
		wantPlainVals(t, "'"+s+" 'a")
	}
}

func TestParseValsShortTexts(t *testing.T) {
	for _, b := range listsOf(6, byte(' '), byte('\''), byte('a'), byte('1'), byte('0'), byte('-')) {
		wantPlainVals(t, string(b))
	}
}

func TestParseValsNearTexts(t *testing.T) {
	for _, s := range []string{"3 'a", "' '", "1000000000 -4 'seven7", "1 2 3 4"} {
		wantPlainVals(t, s)
		for _, near := range nearTexts(s) {
			wantPlainVals(t, near)
		}
	}
}

// TestRowTextIsParsed checks that the values of a row are found in its text, whatever they are.
func TestRowTextIsParsed(t *testing.T) {
	for _, l := range listsOf(4, intOf(0), intOf(-mostNum), intOf(12), textOf(""), textOf("0"), textOf("red"))[1:] {
		rest, marked := strings.CutPrefix(impl.RowText(impl.Row{Id: 31, L: l}), "#31 ")
		if !marked {
			t.Errorf("the text of %v does not begin with the Id", l)
		}
		wantVals(t, rest, l...)
	}
}

func wantColumn(t *testing.T, l []impl.Row, k int, want ...impl.Val) {
	t.Helper()
	if got := impl.Column(l, k); !slices.Equal(got, want) {
		t.Errorf("Column(%v, %d) = %v, want %v", l, k, got, want)
	}
}

func TestColumn(t *testing.T) {
	l := []impl.Row{rowOf(5, intOf(1), textOf("a")), rowOf(2), rowOf(9, intOf(2)), rowOf(-3, textOf("b"), impl.Val{}, intOf(7)), rowOf(5, intOf(1), textOf("a"))}
	wantColumn(t, l, 0, intOf(1), intOf(2), textOf("b"), intOf(1))
	wantColumn(t, l, 1, textOf("a"), impl.Val{}, textOf("a"))
	wantColumn(t, l, 2, intOf(7))
	for _, k := range []int{3, 4, 1 << 32, math.MaxInt, -1, -2, -3, math.MinInt} {
		wantColumn(t, l, k)
	}
	for _, k := range []int{-1, 0, 1, math.MaxInt, math.MinInt} {
		wantColumn(t, nil, k)
		wantColumn(t, []impl.Row{}, k)
		wantColumn(t, []impl.Row{{}}, k)
		wantColumn(t, []impl.Row{{}, rowOf(1), {L: []impl.Val{}}}, k)
	}
}

func TestColumnLong(t *testing.T) {
	for _, m := range []int{1, 12, 64, 65, 1000} {
		var l []impl.Row
		var want [4][]impl.Val
		for i := range m {
			r := impl.Row{Id: m - i}
			for k := range i % 5 {
				v := impl.Val{Ty: k, N: i, S: strconv.Itoa(i)}
				r.L, want[k] = append(r.L, v), append(want[k], v)
			}
			l = append(l, r)
		}
		for k := range want {
			wantColumn(t, l, k, want[k]...)
		}
		wantColumn(t, l, 4)
		wantColumn(t, l, -1)
	}
}

func TestColumnWithinCapacity(t *testing.T) {
	vals := []impl.Val{intOf(1), intOf(2), intOf(3)}
	l := []impl.Row{rowOf(0, vals[:1]...), rowOf(1, vals[:2]...), rowOf(2, vals...)}
	wantColumn(t, l[:2], 0, intOf(1), intOf(1))
	wantColumn(t, l[:2], 1, intOf(2))
	wantColumn(t, l[:2], 2)
	wantColumn(t, l[:0], 0)
}

func sampleRows() [][]impl.Row {
	return [][]impl.Row{
		{}, {{}}, {rowOf(7, intOf(3), textOf("a"))}, {rowOf(-1, impl.Val{}), rowOf(2), rowOf(3, textOf("A"), intOf(1), intOf(2), intOf(4))},
		slices.Repeat([]impl.Row{rowOf(5, intOf(5), textOf("b"), impl.Val{Ty: 9})}, 65),
	}
}

func TestRowMemory(t *testing.T) {
	for _, rows := range sampleRows() {
		for _, r := range rows {
			a, checkA := spareRow(t, r)
			b, checkB := spareRow(t, r)
			for _, want := range goodCols() {
				cols, checkCols := spare(t, tyInt, want...)
				impl.ColsOk(cols)
				impl.FitsCols(cols, a.L)
				impl.RowOk(cols, a)
				checkCols("the columns of ColsOk, FitsCols and RowOk")
			}
			wantSameRow(t, a, b, true)
			impl.RowText(a)
			checkA("the row of FitsCols, RowOk, SameRow and RowText")
			checkB("the second row of SameRow")
		}
	}
}

func TestRowsMemory(t *testing.T) {
	for _, rows := range sampleRows() {
		a, checkA := spareRows(t, rows...)
		b, checkB := spareRows(t, rows...)
		wantSameRows(t, a, b, true)
		wantSameRows(t, a, append(slices.Clone(rows), impl.Row{}), false)
		for k := -1; k <= 4; k++ {
			want := slices.Clone(impl.Column(rows, k))
			first, last := impl.Column(a, k), impl.Column(a, k)
			scribble(first, textOf("gone"))
			checkA("the rows of SameRows and Column")
			checkB("the second rows of SameRows")
			c, _ := spareRows(t, rows...)
			kept := impl.Column(c, k)
			for _, r := range c[:cap(c)] {
				scribble(r.L, textOf("gone"))
			}
			scribble(c, impl.Row{})
			if !slices.Equal(last, want) || !slices.Equal(kept, want) {
				t.Errorf("Column, its argument or other results overwritten: %v and %v, want %v", last, kept, want)
			}
		}
	}
}

func TestRowsStayTheSame(t *testing.T) {
	r := rowOf(7, intOf(3), textOf("a"))
	for range 3 {
		wantNoVals(t, "")
		wantNoVals(t, "3  'a")
		wantNoVals(t, "3 'A")
		wantVals(t, "3 'a", r.L...)
		first, _ := impl.ParseVals("3 'a")
		scribble(first, impl.Val{})
		failed, _ := impl.ParseVals("3 'a x")
		scribble(failed, intOf(9))
		wantFits(t, []int{1, 2}, r.L, true)
		wantFits(t, []int{1}, r.L, false)
		wantColumn(t, []impl.Row{r, r}, 1, textOf("a"), textOf("a"))
		wantColumn(t, []impl.Row{r}, 2)
		if s := impl.RowText(r); s != "#7 3 'a" {
			t.Error(s)
		}
	}
}
