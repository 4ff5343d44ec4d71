package tests

import (
	"bytes"
	"fmt"
	"math"
	"slices"
	"testing"

	"loop.example/g00496/impl"
)

const mostGroup = 12

// groupSample is a list of rows for these columns.
type groupSample struct {
	cols []int
	l    []impl.Row
}

// plainRowsOk checks the document's conditions one by one, apart from the program.
func plainRowsOk(cols []int, l []impl.Row) bool {
	if len(cols) == 0 || len(cols) > mostCols || len(l) > mostGroup {
		return false
	}
	for _, ty := range cols {
		if ty != tyInt && ty != tyText {
			return false
		}
	}
	for i, r := range l {
		if r.Id < 0 || r.Id > mostNum || !fitsPlainly(cols, r.L) {
			return false
		}
		for _, before := range l[:i] {
			if before.Id >= r.Id {
				return false
			}
		}
	}
	return true
}

func idsPlainly(l []impl.Row) []int {
	var out []int
	for _, r := range l {
		out = append(out, r.Id)
	}
	return out
}

func columnsPlainly(cols []int, l []impl.Row) [][]impl.Val {
	var out [][]impl.Val
	for k := range cols {
		out = append(out, columnPlainly(l, k))
	}
	return out
}

// forged writes Ids and whatever stands for the columns, each after its length.
func forged(ids []int, codes ...[]byte) []byte {
	out := plainNums(ids...)
	for _, code := range codes {
		out = slices.Concat(out, plainNum(len(code)), code)
	}
	return out
}

// plainGroup encodes rows in the document's words, apart from the program.
func plainGroup(cols []int, l []impl.Row) []byte {
	if !plainRowsOk(cols, l) {
		return nil
	}
	if len(l) == 0 {
		return []byte{0}
	}
	var codes [][]byte
	for _, values := range columnsPlainly(cols, l) {
		codes = append(codes, plainColCode(values))
	}
	return forged(idsPlainly(l), codes...)
}

// numsPlainly reads up to the given number of integers at the start of b, and returns the bytes after them.
func numsPlainly(b []byte, k int) ([]int, []byte) {
	var out []int
	for range k {
		v, next, ok := plainGet(b, tyInt)
		if !ok {
			break
		}
		out, b = append(out, v.N), b[next:]
	}
	return out, b
}

// plainGroupDecode reads the Ids and the columns, and checks that the same bytes encode what it found.
func plainGroupDecode(cols []int, b []byte) ([]impl.Row, bool) {
	count, rest := numsPlainly(b, 1)
	if len(count) == 0 || count[0] < 0 || count[0] > mostGroup {
		return nil, false
	}
	ids, rest := numsPlainly(rest, count[0])
	if len(ids) != count[0] {
		return nil, false
	}
	var columns [][]impl.Val
	for k := 0; k < len(cols) && len(ids) > 0; k++ {
		size, after := numsPlainly(rest, 1)
		if len(size) == 0 || size[0] < 0 || size[0] > len(after) {
			return nil, false
		}
		values, ok := plainColDecode(after[:size[0]], cols[k], len(ids))
		if !ok {
			return nil, false
		}
		columns, rest = append(columns, values), after[size[0]:]
	}
	l := rowsFrom(ids, columns...)
	if !plainRowsOk(cols, l) || !bytes.Equal(plainGroup(cols, l), b) {
		return nil, false
	}
	return l, true
}

func plainFind(l []impl.Row, id int) (impl.Row, bool) {
	if i := slices.Index(idsPlainly(l), id); i >= 0 {
		return l[i], true
	}
	return impl.Row{}, false
}

func plainDrop(l []impl.Row, ids []int) []impl.Row {
	return slices.DeleteFunc(slices.Clone(l), func(r impl.Row) bool { return slices.Index(ids, r.Id) >= 0 })
}

func plainPut(l []impl.Row, r impl.Row) []impl.Row {
	for i := range l {
		if l[i].Id >= r.Id {
			return slices.Concat(l[:i], []impl.Row{r}, l[i:])
		}
	}
	return slices.Concat(l, []impl.Row{r})
}

// rowsFrom returns the rows with these Ids and these columns.
func rowsFrom(ids []int, columns ...[]impl.Val) []impl.Row {
	var out []impl.Row
	for i, id := range ids {
		r := rowOf(id)
		for _, values := range columns {
			r.L = append(r.L, values[i])
		}
		out = append(out, r)
	}
	return out
}

// longTexts returns k different texts of MaxText characters, whose lengths in bytes need two bytes if there are many.
func longTexts(k int) []impl.Val {
	var out []impl.Val
	for i := range k {
		out = append(out, textOf("abcde"+string(rune('a'+i))))
	}
	return out
}

// columnsOf returns columns of k values of this type, of all kinds if k is large enough.
func columnsOf(ty, k int) [][]impl.Val {
	if ty == tyInt {
		half := append(cycleOf(k/2, intOf(4)), cycleOf(k-k/2, intOf(1))...)
		return [][]impl.Val{intsOf(listFrom(1000, k)...), cycleOf(k, intOf(mostNum), intOf(mostNum), intOf(0)), half, someVals(ty, k), cycleOf(k, intOf(0)), cycleOf(k, intOf(-mostNum), intOf(mostNum))}
	}
	half := append(cycleOf(k/2, textOf("abc")), cycleOf(k-k/2, textOf("d"))...)
	return [][]impl.Val{cycleOf(k, textOf("")), cycleOf(k, textsOf("red", "blue")...), someVals(ty, k), half, longTexts(k), cycleOf(k, textOf("zzzzzz"))}
}

// idLists returns ascending lists of k Ids, from one end of the range to the other.
func idLists(k int) [][]int {
	squares := listFrom(1, k)
	for i := range squares {
		squares[i] *= squares[i] * 10
	}
	return [][]int{listFrom(0, k), squares, listFrom(mostNum-k+1, k), listFrom(63-k/2, k)}
}

// groupSamples returns valid lists of rows of all lengths for all columns.
func groupSamples() []groupSample {
	var out []groupSample
	for _, cols := range goodCols() {
		for k := range mostGroup + 1 {
			for p := range 6 {
				var columns [][]impl.Val
				for i, ty := range cols {
					columns = append(columns, columnsOf(ty, k)[(p+i)%6])
				}
				ids := idLists(k)
				out = append(out, groupSample{cols, rowsFrom(ids[p%len(ids)], columns...)})
			}
		}
	}
	return out
}

// changedAt returns rows that differ from l in row i alone.
func changedAt(l []impl.Row, i int, r impl.Row) []impl.Row {
	out := slices.Clone(l)
	out[i] = r
	return out
}

// risingRows returns k rows for these columns.
func risingRows(cols []int, k int) []impl.Row {
	var out []impl.Row
	for i := range k {
		out = append(out, rowOf(2*i+3, valsOf(cols...)...))
	}
	return out
}

// wrongRows returns rows that do not fit the columns, in one way each.
func wrongRows(cols []int, id int) []impl.Row {
	fits := valsOf(cols...)
	out := []impl.Row{rowOf(id), rowOf(id, fits[1:]...), rowOf(id, fits[:len(fits)-1]...), rowOf(id, append(fits, intOf(1))...), rowOf(id, append(slices.Clone(fits), textOf("a"))...), rowOf(id, append(slices.Clone(fits), impl.Val{})...)}
	for k, ty := range cols {
		for _, v := range []impl.Val{valOf(tyInt+tyText-ty, k), {}, {Ty: 3}, {Ty: ty + 1<<32}, {Ty: tyInt, N: mostNum + 1}, {Ty: tyInt, N: -mostNum - 1}, {Ty: tyInt, N: 1, S: "a"}, {Ty: tyText, N: 1, S: "a"}, textOf("A"), textOf("seven77")} {
			l := slices.Clone(fits)
			l[k] = v
			out = append(out, rowOf(id, l...))
		}
	}
	return out
}

// notGroups returns lists of rows that have no group, for these columns.
func notGroups(cols []int) [][]impl.Row {
	out := [][]impl.Row{risingRows(cols, mostGroup+1), risingRows(cols, mostGroup+2), risingRows(cols, 24), risingRows(cols, 64), risingRows(cols, 65), risingRows(cols, 1<<10)}
	l := risingRows(cols, mostGroup)
	for _, at := range []int{0, 1, 5, 10, 11} {
		for _, id := range []int{-1, -2, -mostNum, math.MinInt, mostNum + 1, mostNum + 2, 2 * mostNum, 1 << 31, 1 << 32, 1<<32 + l[at].Id, math.MaxInt, math.MaxInt - 1, math.MinInt + l[at].Id} {
			out = append(out, changedAt(l, at, rowOf(id, l[at].L...)), []impl.Row{rowOf(id, l[at].L...)})
		}
		for _, r := range wrongRows(cols, l[at].Id) {
			out = append(out, changedAt(l, at, r), []impl.Row{r})
		}
		if at > 0 {
			out = append(out, changedAt(l, at, l[at-1]), changedAt(l, at, l[0]), changedAt(l, at, rowOf(l[at-1].Id-1, l[at].L...)), changedAt(changedAt(l, at, l[at-1]), at-1, l[at]))
		}
	}
	return out
}

func wantRowsOk(t *testing.T, cols []int, l []impl.Row, want bool) {
	t.Helper()
	if got := impl.RowsOk(cols, l); got != want {
		t.Fatalf("RowsOk(%v, %d rows %v) = %v, want %v", cols[:min(len(cols), 5)], len(l), l[:min(len(l), 13)], got, want)
	}
}

func wantDecodedRows(t *testing.T, cols []int, b []byte, want []impl.Row) {
	t.Helper()
	if l, ok := impl.GetGroup(cols, b); !sameRowsPlainly(l, want) || !ok {
		t.Fatalf("GetGroup(%v, %v) = %v, %v; want %v, true", cols, b, l, ok, want)
	}
}

func wantNoRows(t *testing.T, cols []int, b []byte) {
	t.Helper()
	if l, ok := impl.GetGroup(cols, b); len(l) != 0 || ok {
		t.Fatalf("GetGroup(%v, %v) = %v, %v; want none, false", cols[:min(len(cols), 5)], b[:min(len(b), 200)], l, ok)
	}
}

// wantPlainRows checks that b is decoded exactly if it is the group of some rows.
func wantPlainRows(t *testing.T, cols []int, b []byte) {
	t.Helper()
	want, ok := plainGroupDecode(cols, b)
	if !ok {
		wantNoRows(t, cols, b)
		return
	}
	wantDecodedRows(t, cols, b, want)
	wantBytes(t, "the group of what was decoded", impl.PutGroup(cols, want), b)
}

func wantKinds(t *testing.T, cols []int, l []impl.Row, want ...int) {
	t.Helper()
	if got := impl.KindsOf(cols, l); !slices.Equal(got, want) {
		t.Fatalf("KindsOf(%v, %d rows %v) = %v, want %v", cols[:min(len(cols), 5)], len(l), l[:min(len(l), 13)], got, want)
	}
}

// wantRows checks all that is computed from columns and rows, and P13.
func wantRows(t *testing.T, cols []int, l []impl.Row) {
	t.Helper()
	ok := plainRowsOk(cols, l)
	wantRowsOk(t, cols, l, ok)
	b := impl.PutGroup(cols, l)
	wantBytes(t, fmt.Sprintf("PutGroup of %d rows for %v", len(l), cols[:min(len(cols), 5)]), b, plainGroup(cols, l))
	if !ok {
		wantKinds(t, cols, l)
		return
	}
	wantDecodedRows(t, cols, b, l)
	var kinds []int
	for _, values := range columnsPlainly(cols, l) {
		if len(l) > 0 {
			kinds = append(kinds, plainBest(values))
		}
	}
	wantKinds(t, cols, l, kinds...)
}

func wantFound(t *testing.T, l []impl.Row, id int) {
	t.Helper()
	want, wantOk := plainFind(l, id)
	if r, ok := impl.FindRow(l, id); r.Id != want.Id || !slices.Equal(r.L, want.L) || ok != wantOk {
		t.Fatalf("FindRow(%d rows %v, %d) = %v, %v; want %v, %v", len(l), l[:min(len(l), 13)], id, r, ok, want, wantOk)
	}
}

func wantDropped(t *testing.T, l []impl.Row, ids []int) {
	t.Helper()
	want := plainDrop(l, ids)
	if got := impl.DropRows(l, ids); !sameRowsPlainly(got, want) {
		t.Fatalf("DropRows(%d rows %v, %v) = %v, want %v", len(l), l[:min(len(l), 13)], ids[:min(len(ids), 13)], got[:min(len(got), 13)], want[:min(len(want), 13)])
	}
}

func wantPut(t *testing.T, l []impl.Row, r impl.Row) {
	t.Helper()
	want := plainPut(l, r)
	if got := impl.PutRow(l, r); !sameRowsPlainly(got, want) {
		t.Fatalf("PutRow(%d rows %v, %v) = %v, want %v", len(l), l[:min(len(l), 13)], r, got[:min(len(got), 14)], want[:min(len(want), 14)])
	}
}

func TestMaxGroup(t *testing.T) {
	if impl.MaxGroup != mostGroup {
		t.Error(impl.MaxGroup)
	}
}

func TestRowsOkTable(t *testing.T) {
	three, four := intsOf(3), intsOf(4)
	for _, c := range []struct {
		cols []int
		l    []impl.Row
		want bool
	}{
		{[]int{1}, nil, true}, {[]int{2, 1, 2}, []impl.Row{}, true}, {nil, nil, false}, {[]int{}, []impl.Row{}, false}, {[]int{1, 1, 1, 1}, nil, false}, {[]int{3}, nil, false}, {[]int{1, 0}, nil, false},
		{[]int{1}, []impl.Row{rowOf(0, three...)}, true}, {[]int{1}, []impl.Row{rowOf(0, three...), rowOf(2, four...)}, true}, {[]int{2}, []impl.Row{rowOf(0, three...)}, false}, {nil, []impl.Row{rowOf(0)}, false},
		{[]int{1}, []impl.Row{rowOf(2, three...), rowOf(0, four...)}, false}, {[]int{1}, []impl.Row{rowOf(2, three...), rowOf(2, four...)}, false}, {[]int{1}, []impl.Row{rowOf(2, three...), rowOf(2, three...)}, false},
		{[]int{1}, []impl.Row{rowOf(-1, three...)}, false}, {[]int{1}, []impl.Row{rowOf(mostNum, three...)}, true}, {[]int{1}, []impl.Row{rowOf(mostNum+1, three...)}, false},
		{[]int{1}, []impl.Row{rowOf(0, three...), rowOf(mostNum, three...)}, true}, {[]int{1}, []impl.Row{rowOf(0, three...), rowOf(mostNum+1, three...)}, false}, {[]int{1}, []impl.Row{rowOf(math.MaxInt, three...)}, false}, {[]int{1}, []impl.Row{rowOf(math.MinInt, three...)}, false},
		{[]int{1}, []impl.Row{rowOf(0)}, false}, {[]int{1}, []impl.Row{rowOf(0, intsOf(3, 4)...)}, false}, {[]int{1}, []impl.Row{rowOf(0, textOf("a"))}, false}, {[]int{1}, []impl.Row{rowOf(0, intOf(mostNum+1))}, false}, {[]int{1}, []impl.Row{{}}, false},
		{[]int{1, 2}, []impl.Row{rowOf(5, intOf(3), textOf("a")), rowOf(6, intOf(3), textOf("a"))}, true}, {[]int{1, 2}, []impl.Row{rowOf(5, intOf(3), textOf("a")), rowOf(6, textOf("a"), intOf(3))}, false},
	} {
		wantRows(t, c.cols, c.l)
		wantRowsOk(t, c.cols, c.l, c.want)
	}
}

func TestRowsOkCols(t *testing.T) {
	for _, cols := range wrongCols() {
		for _, fit := range append(goodCols(), cols[:min(len(cols), 70)]) {
			for k := range 3 {
				wantRows(t, cols, risingRows(fit, k))
				wantRowsOk(t, cols, risingRows(fit, k), false)
			}
		}
		wantRows(t, cols, nil)
		wantRows(t, cols, slices.Repeat([]impl.Row{{}}, 2))
	}
	for _, cols := range goodCols() {
		for _, fit := range goodCols() {
			for k := range 3 {
				wantRowsOk(t, cols, risingRows(fit, k), k == 0 || slices.Equal(cols, fit))
			}
		}
	}
}

func TestRowsOkCount(t *testing.T) {
	for _, cols := range goodCols() {
		for k := range 70 {
			wantRowsOk(t, cols, risingRows(cols, k), k <= mostGroup)
		}
		for _, k := range []int{128, 256, 256 + mostGroup, 1 << 16, 1<<16 + 1} {
			wantRows(t, cols, risingRows(cols, k))
			wantRowsOk(t, cols, risingRows(cols, k), false)
		}
	}
}

func TestRowsOkIds(t *testing.T) {
	for _, ids := range listsOf(3, math.MinInt, -1<<32, -1, 0, 1, 2, mostNum-1, mostNum, mostNum+1, 1<<32, 1<<32+1, math.MaxInt) {
		column := cycleOf(len(ids), intOf(4))
		wantRows(t, []int{tyInt}, rowsFrom(ids, column))
	}
	for _, ids := range listsOf(5, 0, 1, 2, 3) {
		wantRows(t, []int{tyText}, rowsFrom(ids, cycleOf(len(ids), textOf("a"), textOf(""))))
	}
}

func TestNotGroups(t *testing.T) {
	for _, cols := range goodCols() {
		for _, l := range notGroups(cols) {
			wantRows(t, cols, l)
			wantRowsOk(t, cols, l, false)
			wantBytes(t, "PutGroup where RowsOk is false", impl.PutGroup(cols, l), nil)
			wantKinds(t, cols, l)
		}
	}
	for _, v := range wrongVals() {
		l := risingRows([]int{tyInt, tyText}, 3)
		l[1].L[v.N&1] = v
		wantRows(t, []int{tyInt, tyText}, l)
		wantRowsOk(t, []int{tyInt, tyText}, l, false)
	}
}

func TestRowsWithinCapacity(t *testing.T) {
	cols, l := []int{tyInt, tyText, tyInt, tyInt}, risingRows([]int{tyInt, tyText}, 14)
	l[2] = rowOf(1, intOf(1))
	wantRows(t, cols[:2], l[:2])
	wantRowsOk(t, cols[:2], l[:2], true)
	wantRows(t, cols[:2], l[3:])
	wantRowsOk(t, cols[:2], l[3:], true)
	wantRows(t, cols[:2], l[:3])
	wantRows(t, cols[:2], l[2:])
	wantRows(t, cols[:3], l[:2])
	wantRows(t, cols[:1], l[:2])
	values := []impl.Val{intOf(1), textOf("a"), intOf(2)}
	wantRows(t, cols[:2], []impl.Row{rowOf(1, values[:2]...)})
	wantRowsOk(t, cols[:2], []impl.Row{rowOf(1, values[:2]...)}, true)
	wantRowsOk(t, cols[:3], []impl.Row{rowOf(1, values[:2]...)}, false)
	b := impl.PutGroup(cols[:2], l[:2])
	for end := range len(b) {
		wantNoRows(t, cols[:2], b[:end])
	}
	wantDecodedRows(t, cols[:2], append(slices.Clone(b), 0, 0)[:len(b)], l[:2])
}

func TestPutGroupTable(t *testing.T) {
	for _, c := range []struct {
		cols []int
		l    []impl.Row
		want []byte
	}{
		{[]int{1}, rowsFrom([]int{0, 2}, intsOf(4, 4)), []byte{4, 0, 4, 6, 0, 8, 8}},
		{[]int{1}, nil, []byte{0}}, {[]int{2}, []impl.Row{}, []byte{0}}, {[]int{1, 2, 1}, nil, []byte{0}},
		{[]int{1}, rowsFrom([]int{7}, intsOf(-3)), []byte{2, 14, 4, 0, 5}}, {[]int{2}, rowsFrom([]int{0}, textsOf("")), []byte{2, 0, 4, 0, 0}},
		{[]int{1, 2}, rowsFrom([]int{64}, intsOf(1), textsOf("ab")), []byte{2, 128, 1, 4, 0, 2, 8, 0, 2, 'a', 'b'}},
		{[]int{2, 1}, rowsFrom([]int{1, 5}, textsOf("q", "q"), intsOf(100, 109)), []byte{4, 2, 10, 8, ckDict, 2, 1, 'q', 10, 0, 200, 1, 218, 1}},
		{[]int{1, 1}, rowsFrom([]int{0, 1, 2, 3}, intsOf(100, 101, 102, 103), intsOf(4, 4, 4, 4)), []byte{8, 0, 2, 4, 6, 10, 3, 200, 1, 2, 228, 6, 2, 2, 8}},
		{[]int{2}, rowsFrom(listFrom(0, 10), longTexts(10)), slices.Concat([]byte{20, 0, 2, 4, 6, 8, 10, 12, 14, 16, 18, 142, 1, 0}, plainCodes(longTexts(10)...))},
		{[]int{1}, rowsFrom([]int{mostNum}, intsOf(mostNum)), []byte{2, 128, 168, 214, 185, 7, 12, 0, 128, 168, 214, 185, 7}},
	} {
		if own := plainGroup(c.cols, c.l); !bytes.Equal(own, c.want) {
			t.Fatalf("the test's own group of %v is %v, want %v", c.l, own, c.want)
		}
		wantRows(t, c.cols, c.l)
		wantBytes(t, "PutGroup", impl.PutGroup(c.cols, c.l), c.want)
		wantDecodedRows(t, c.cols, c.want, c.l)
	}
}

// TestGroupSamples has all columns with all numbers of rows.
func TestGroupSamples(t *testing.T) {
	seen := map[int]int{}
	for _, s := range groupSamples() {
		wantRowsOk(t, s.cols, s.l, true)
		wantRows(t, s.cols, s.l)
		for _, kind := range impl.KindsOf(s.cols, s.l) {
			seen[kind]++
		}
	}
	for kind := range 4 {
		if seen[kind] < 100 {
			t.Errorf("%d columns have the kind %d", seen[kind], kind)
		}
	}
}

func TestGroupAllShort(t *testing.T) {
	for _, values := range listsOf(4, intOf(0), intOf(-1), intOf(100), intOf(mostNum)) {
		wantRows(t, []int{tyInt}, rowsFrom(listFrom(1, len(values)), values))
		wantRows(t, []int{tyText, tyInt}, rowsFrom(listFrom(1, len(values)), cycleOf(len(values), textOf("a")), values))
	}
	for _, values := range listsOf(4, textOf(""), textOf("a"), textOf("b"), textOf("seven7")) {
		wantRows(t, []int{tyText}, rowsFrom(listFrom(60, len(values)), values))
		wantRows(t, []int{tyText, tyText}, rowsFrom(listFrom(60, len(values)), values, backwards(values)))
	}
}

func TestGetGroupNoBytes(t *testing.T) {
	for _, cols := range append(goodCols(), wrongCols()...) {
		wantNoRows(t, cols, nil)
		wantNoRows(t, cols, []byte{})
		wantNoRows(t, cols, []byte{0}[:0])
	}
}

// TestGetGroupWithoutRows has the byte 0, which is the group of no rows for all columns.
func TestGetGroupWithoutRows(t *testing.T) {
	for _, cols := range goodCols() {
		wantDecodedRows(t, cols, []byte{0}, nil)
		for c := range 256 {
			wantNoRows(t, cols, []byte{0, byte(c)})
			if c > 0 {
				wantNoRows(t, cols, []byte{byte(c)})
			}
		}
		wantNoRows(t, cols, []byte{128, 0})
		wantNoRows(t, cols, make([]byte, len(cols)+1))
		wantNoRows(t, cols, forged(nil, slices.Repeat([][]byte{{ckPlain}}, len(cols))...))
		wantNoRows(t, cols, plainNum(-1))
	}
	for _, cols := range wrongCols() {
		wantNoRows(t, cols, []byte{0})
		wantNoRows(t, cols, make([]byte, min(len(cols), 1000)+1))
	}
}

// TestGetGroupWrongCols has groups that are only invalid since the columns are.
func TestGetGroupWrongCols(t *testing.T) {
	for _, cols := range wrongCols() {
		var codes [][]byte
		for _, ty := range cols[:min(len(cols), 100)] {
			v := textOf("a")
			if ty == tyInt {
				v = intOf(3)
			}
			codes = append(codes, plainColCode([]impl.Val{v}))
		}
		wantNoRows(t, cols, forged([]int{5}, codes...))
		wantNoRows(t, cols, forged([]int{5}))
		wantNoRows(t, cols, []byte{0})
	}
}

func TestGetGroupCutOff(t *testing.T) {
	for _, s := range groupSamples() {
		b := impl.PutGroup(s.cols, s.l)
		for end := range len(b) {
			wantNoRows(t, s.cols, b[:end])
			wantNoRows(t, s.cols, slices.Clone(b[:end]))
		}
		wantPlainRows(t, s.cols, b[1:])
	}
}

func TestGetGroupLeftOver(t *testing.T) {
	for _, s := range groupSamples() {
		b := impl.PutGroup(s.cols, s.l)
		for _, c := range []byte{0, 1, 2, 3, 4, 6, 127, 128, 255} {
			wantNoRows(t, s.cols, append(slices.Clone(b), c))
		}
		wantNoRows(t, s.cols, slices.Concat(b, b))
		wantNoRows(t, s.cols, slices.Concat(b, plainNum(2), []byte{ckPlain, 0}))
		wantPlainRows(t, s.cols, append([]byte{0}, b...))
	}
}

// TestNearGroups inserts, changes and removes single bytes.
func TestNearGroups(t *testing.T) {
	for _, s := range []groupSample{
		{[]int{1}, nil}, {[]int{1}, rowsFrom([]int{0, 2}, intsOf(4, 4))}, {[]int{2}, rowsFrom([]int{5}, textsOf(""))}, {[]int{1, 2}, rowsFrom([]int{63, 64, 65}, intsOf(mostNum, mostNum, 0), textsOf("abc", "abc", "abc"))},
		{[]int{2, 1}, rowsFrom(listFrom(1, 4), textsOf("", "", "", ""), intsOf(100, 101, 102, 103))}, {[]int{1, 1, 1}, rowsFrom([]int{9}, intsOf(0), intsOf(-1), intsOf(1))},
		{[]int{1, 2, 1}, rowsFrom(listFrom(0, mostGroup), cycleOf(mostGroup, intOf(5)), cycleOf(mostGroup, textsOf("a", "b")...), intsOf(1, 1, 1, 1, 1, 1, 4, 4, 4, 4, 4, 4))},
		{[]int{1}, rowsFrom([]int{mostNum - 1, mostNum}, intsOf(mostNum, -mostNum))},
	} {
		b := impl.PutGroup(s.cols, s.l)
		accepted := 0
		for _, near := range nearTexts(string(b)) {
			wantPlainRows(t, s.cols, []byte(near))
			if _, ok := impl.GetGroup(s.cols, []byte(near)); ok && near != string(b) {
				accepted++
			}
		}
		if accepted == 0 && len(s.l) > 0 {
			t.Errorf("no group is near to that of %v", s.l)
		}
	}
}

func TestGetGroupShortBytes(t *testing.T) {
	for _, b := range slices.Concat(listsOf[byte](6, 0, 2, 4, 6), listsOf[byte](5, 0, 1, 2, 4, 128)) {
		for _, cols := range [][]int{{1}, {2}, {1, 2}} {
			wantPlainRows(t, cols, b)
			wantPlainRows(t, cols, append([]byte{2, 6}, b...))
			wantPlainRows(t, cols, append([]byte{4, 6, 8, 6}, b...))
		}
	}
	for x := range 256 {
		for y := range 256 {
			wantPlainRows(t, []int{1}, []byte{byte(x), byte(y)})
			wantPlainRows(t, []int{1}, []byte{2, byte(x), 4, 0, byte(y)})
			wantPlainRows(t, []int{2}, []byte{4, byte(x), byte(y), 6, 0, 0, 0})
			wantPlainRows(t, []int{1}, []byte{4, 2, 4, byte(x), 0, 8, byte(y)})
		}
	}
}

// TestGetGroupLengths has a wrong length in front of one column, and correct ones elsewhere.
func TestGetGroupLengths(t *testing.T) {
	for _, s := range groupSamples() {
		if len(s.l) == 0 {
			continue
		}
		ids := plainNums(idsPlainly(s.l)...)
		columns := columnsPlainly(s.cols, s.l)
		for wrong := range columns {
			var before, after []byte
			for k, values := range columns {
				switch code := plainColCode(values); {
				case k < wrong:
					before = slices.Concat(before, plainNum(len(code)), code)
				case k > wrong:
					after = slices.Concat(after, plainNum(len(code)), code)
				}
			}
			code := plainColCode(columns[wrong])
			with := func(size []byte) []byte { return slices.Concat(ids, before, size, code, after) }
			wantDecodedRows(t, s.cols, with(plainNum(len(code))), s.l)
			for _, size := range []int{0, 1, len(code) - 1, len(code) + 1, len(code) + 2, len(code) + len(after), len(code) + len(after) + 1, 2 * len(code), -1, -len(code), mostNum, -mostNum} {
				if size != len(code) {
					wantNoRows(t, s.cols, with(plainNum(size)))
				}
			}
			shortest := plainNum(len(code))
			redundant := append(slices.Clone(shortest[:len(shortest)-1]), shortest[len(shortest)-1]|128, 0)
			wantNoRows(t, s.cols, with(redundant))
			wantNoRows(t, s.cols, with(nil))
			wantNoRows(t, s.cols, with([]byte{255, 255, 255, 255, 255, 255, 255, 255, 127}))
			wantNoRows(t, s.cols, with([]byte{254, 255, 255, 255, 15}))
		}
	}
}

// TestGetGroupOtherCounts has a column with fewer or more values than there are Ids.
func TestGetGroupOtherCounts(t *testing.T) {
	for _, ty := range bothTypes() {
		for k := 1; k <= mostGroup; k++ {
			for _, more := range []int{k - 1, k + 1, k + 2, 2 * k, mostGroup, mostGroup + 1} {
				for i, values := range columnsOf(ty, more) {
					good := plainColCode(columnsOf(ty, k)[i])
					for _, code := range [][]byte{plainColCode(values), kindCode(ckPlain, plainCodes(values...))} {
						wantPlainRows(t, []int{ty}, forged(listFrom(5, k), code))
						wantPlainRows(t, []int{ty, ty}, forged(listFrom(5, k), code, good))
						wantPlainRows(t, []int{ty, ty}, forged(listFrom(5, k), good, code))
						wantPlainRows(t, []int{ty, ty}, forged(listFrom(5, k), code, code))
					}
				}
			}
		}
	}
	wantDecodedRows(t, []int{1}, forged([]int{1, 2}, []byte{ckPlain, 6, 8}), rowsFrom([]int{1, 2}, intsOf(3, 4)))
	wantNoRows(t, []int{1}, forged([]int{1, 2}, []byte{ckPlain, 6}))
	wantNoRows(t, []int{1}, forged([]int{1, 2}, []byte{ckPlain, 6, 8, 10}))
	wantNoRows(t, []int{1}, forged([]int{1, 2}, []byte{ckPlain}))
	wantNoRows(t, []int{1}, forged([]int{1, 2}, nil))
	wantNoRows(t, []int{1}, forged(nil, []byte{ckPlain}))
}

// TestGetGroupOtherTypes has the group of one table decoded with the columns of all others.
func TestGetGroupOtherTypes(t *testing.T) {
	for _, s := range groupSamples() {
		b := impl.PutGroup(s.cols, s.l)
		for _, cols := range goodCols() {
			wantPlainRows(t, cols, b)
			if len(cols) != len(s.cols) && len(s.l) > 0 {
				wantNoRows(t, cols, b)
			}
		}
	}
	b := impl.PutGroup([]int{1, 2}, rowsFrom([]int{1, 2}, intsOf(3, 4), textsOf("a", "b")))
	for _, cols := range [][]int{{2, 1}, {1, 1}, {2, 2}, {1}, {2}, {1, 2, 1}, {1, 2, 2}} {
		wantNoRows(t, cols, b)
	}
}

// TestGetGroupOtherKinds has columns with the right values in another encoding than that of EncCol.
func TestGetGroupOtherKinds(t *testing.T) {
	wrong := 0
	for _, s := range groupSamples() {
		if len(s.l) == 0 {
			continue
		}
		columns := columnsPlainly(s.cols, s.l)
		for k, values := range columns {
			for kind, code := range plainKinds(values) {
				if kind == plainBest(values) {
					continue
				}
				var codes [][]byte
				for _, other := range columns {
					codes = append(codes, plainColCode(other))
				}
				codes[k] = kindCode(kind, code)
				wantNoRows(t, s.cols, forged(idsPlainly(s.l), codes...))
				wrong++
			}
		}
	}
	if wrong < 1000 {
		t.Errorf("%d columns have another encoding", wrong)
	}
	for kind := 4; kind < 256; kind++ {
		wantNoRows(t, []int{1}, forged([]int{5}, []byte{byte(kind), 6}))
	}
}

// TestGetGroupIds has columns for whatever Ids there are.
func TestGetGroupIds(t *testing.T) {
	for _, k := range []int{11, 12, 13, 14, 24, 63, 64, 65, 128, 1000} {
		values := cycleOf(min(k, mostVals), intOf(7))
		if b := forged(listFrom(3, k), plainColCode(values)); k <= mostGroup {
			wantDecodedRows(t, []int{1}, b, rowsFrom(listFrom(3, k), values))
		} else {
			wantNoRows(t, []int{1}, b)
		}
		if k > 0 {
			wantNoRows(t, []int{1}, forged(cycleOfInts(k, 7), plainColCode(values)))
		}
	}
	for _, ids := range listsOf(4, 0, 1, 2, 3, -1, mostNum) {
		values := cycleOf(len(ids), textOf("a"))
		if plainRowsOk([]int{2}, rowsFrom(ids, values)) && len(ids) > 0 {
			wantDecodedRows(t, []int{2}, forged(ids, plainColCode(values)), rowsFrom(ids, values))
		} else if len(ids) > 0 {
			wantNoRows(t, []int{2}, forged(ids, plainColCode(values)))
		}
	}
	code := plainColCode(intsOf(7))
	wantNoRows(t, []int{1}, slices.Concat([]byte{2, 254, 255, 255, 255, 15}, plainNum(len(code)), code))
	wantNoRows(t, []int{1}, slices.Concat([]byte{2, 130, 0}, plainNum(len(code)), code))
	wantNoRows(t, []int{1}, slices.Concat([]byte{130, 0, 2}, plainNum(len(code)), code))
	wantNoRows(t, []int{1}, slices.Concat([]byte{1, 2}, plainNum(len(code)), code))
	wantNoRows(t, []int{1}, plainNum(mostNum))
}

// someLists returns lists of rows that need not be in order or fit any columns; rows with the same Id differ.
func someLists() [][]impl.Row {
	out := [][]impl.Row{nil, {}, someRows(), unevenRows(), {{}}, rowsFrom([]int{math.MaxInt, 1 << 32, 1, math.MinInt, 0, -1}, intsOf(1, 2, 3, 4, 5, 6))}
	for _, ids := range listsOf(4, -1, 0, 1, 3) {
		out = append(out, rowsFrom(ids, intsOf(listFrom(10, len(ids))...), textsOf("a", "b", "c", "d")[:len(ids)]))
	}
	return out
}

// someIds returns Ids that are in some of these lists, between theirs, and far beyond.
func someIds() []int {
	return []int{-2, -1, 0, 1, 2, 3, 4, 5, 9, 10, 11, mostNum, 1<<32 + 1, 1 << 32, -1 << 32, math.MaxInt, math.MaxInt - 1, math.MinInt, math.MinInt + 1}
}

func TestFindRow(t *testing.T) {
	a, b, c := rowOf(4, intOf(1)), rowOf(2, textOf("b")), rowOf(4, intOf(3))
	for _, l := range [][]impl.Row{{a, b, c}, {a, c}, {b, a, c}, {b, a}} {
		if r, ok := impl.FindRow(l, 4); !ok || !slices.Equal(r.L, a.L) {
			t.Errorf("FindRow(%v, 4) = %v, %v", l, r, ok)
		}
	}
	for _, l := range someLists() {
		for _, id := range someIds() {
			wantFound(t, l, id)
		}
	}
	wantFound(t, []impl.Row{a, b, c}[:1], 2)
	wantFound(t, []impl.Row{{}}, 0)
	wantFound(t, nil, 0)
	l := risingRows([]int{tyInt}, 1000)
	for id := range 2010 {
		wantFound(t, l, id)
	}
}

func TestDropRows(t *testing.T) {
	for _, l := range someLists() {
		for _, ids := range listsOf(2, someIds()...) {
			wantDropped(t, l, ids)
		}
		wantDropped(t, l, nil)
		wantDropped(t, l, idsPlainly(l))
		wantDropped(t, l, slices.Repeat(idsPlainly(l), 3))
		wantDropped(t, l, slices.Repeat([]int{1}, 5))
		wantDropped(t, l, slices.Repeat([]int{2}, 65))
		wantDropped(t, l, []int{7, 1, 0, 3}[:2])
		if got := impl.DropRows(l, idsPlainly(l)); len(got) != 0 {
			t.Errorf("DropRows(%v, all Ids) = %v", l, got)
		}
	}
	l := risingRows([]int{tyInt, tyText}, 1000)
	wantDropped(t, l, listFrom(500, 600))
	wantDropped(t, l, listFrom(0, 3000))
	wantDropped(t, l[:5], listFrom(0, 8))
}

func TestPutRow(t *testing.T) {
	for _, l := range someLists() {
		for _, id := range someIds() {
			for _, r := range []impl.Row{rowOf(id), rowOf(id, intOf(99), textOf("new")), rowOf(id, impl.Val{}, impl.Val{Ty: 9, N: 5, S: "Z"}, textOf("a"), textOf("b"))} {
				wantPut(t, l, r)
			}
		}
	}
	r := rowOf(5, intOf(9))
	for _, c := range []struct {
		ids []int
		at  int
	}{
		{nil, 0}, {[]int{6}, 0}, {[]int{5}, 0}, {[]int{4}, 1}, {[]int{1, 4, 6}, 2}, {[]int{1, 5, 6}, 1}, {[]int{1, 5, 5, 5, 6}, 1}, {[]int{1, 2, 3}, 3}, {[]int{6, 1, 2}, 0}, {[]int{1, 6, 2, 5}, 1}, {[]int{4, 3, 2, 1}, 4}, {[]int{4, 4, 9, 1}, 2},
	} {
		l := rowsFrom(c.ids, intsOf(listFrom(0, len(c.ids))...))
		wantPut(t, l, r)
		if got := impl.PutRow(l, r); len(got) != len(l)+1 || !sameRowsPlainly(got[c.at:c.at+1], []impl.Row{r}) {
			t.Errorf("PutRow(%v, %v) = %v, want the row at %d", l, r, got, c.at)
		}
	}
	l := risingRows([]int{tyInt}, 1000)
	for _, id := range []int{0, 3, 4, 1001, 1002, 2001, 2002, 9999} {
		wantPut(t, l, rowOf(id, intOf(1)))
		wantPut(t, l[:500], rowOf(id, intOf(1)))
	}
}

// TestRowsArePutFoundAndDropped changes single rows of a group, and checks that all others remain.
func TestRowsArePutFoundAndDropped(t *testing.T) {
	for _, s := range groupSamples() {
		for _, id := range []int{0, 1, 2, 40, 63, 64, 70, 1000, mostNum - 5, mostNum} {
			r := rowOf(id, valsOf(s.cols...)...)
			put := impl.PutRow(s.l, r)
			if got, ok := impl.FindRow(put, id); !ok || !sameRowsPlainly([]impl.Row{got}, []impl.Row{r}) {
				t.Fatalf("FindRow(%v, %d) = %v, %v; want the row that was put", put, id, got, ok)
			}
			_, had := plainFind(s.l, id)
			wantRowsOk(t, s.cols, put, !had && len(s.l) < mostGroup)
			wantRows(t, s.cols, put)
			dropped := impl.DropRows(put, []int{id})
			wantFound(t, dropped, id)
			if _, ok := impl.FindRow(dropped, id); ok || !had && !sameRowsPlainly(dropped, s.l) {
				t.Fatalf("DropRows(%v, %d) = %v", put, id, dropped)
			}
			wantRows(t, s.cols, dropped)
			for _, other := range s.l {
				if other.Id == id {
					continue
				}
				for _, l := range [][]impl.Row{put, dropped} {
					if got, ok := impl.FindRow(l, other.Id); !ok || !sameRowsPlainly([]impl.Row{got}, []impl.Row{other}) {
						t.Fatalf("FindRow(%v, %d) = %v, %v; want %v", l, other.Id, got, ok, other)
					}
				}
			}
		}
	}
}

// TestGroupIsBuiltInAnyOrder puts the rows of a group one by one.
func TestGroupIsBuiltInAnyOrder(t *testing.T) {
	r := fixedChance()
	for _, s := range groupSamples() {
		var l []impl.Row
		for _, i := range r.Perm(len(s.l)) {
			l = impl.PutRow(l, s.l[i])
		}
		if !sameRowsPlainly(l, s.l) {
			t.Fatalf("the rows of %v, put in any order, are %v", s.l, l)
		}
		for _, i := range r.Perm(len(s.l)) {
			l = impl.DropRows(l, []int{s.l[i].Id})
			wantRows(t, s.cols, l)
		}
		if len(l) != 0 {
			t.Fatalf("%v remain", l)
		}
	}
}

func TestKindsOf(t *testing.T) {
	for _, c := range []struct {
		cols []int
		l    []impl.Row
		want []int
	}{
		{[]int{1}, rowsFrom([]int{1}, intsOf(7)), []int{ckPlain}}, {[]int{1}, rowsFrom(listFrom(0, 12), intsOf(1, 1, 1, 1, 1, 1, 4, 4, 4, 4, 4, 4)), []int{ckRuns}},
		{[]int{1}, rowsFrom(listFrom(0, 3), intsOf(mostNum, mostNum, 0)), []int{ckDict}}, {[]int{1}, rowsFrom(listFrom(0, 4), intsOf(100, 101, 102, 103)), []int{ckFrame}},
		{[]int{2}, rowsFrom([]int{1}, textsOf("a")), []int{ckPlain}}, {[]int{2}, rowsFrom(listFrom(0, 2), textsOf("abc", "abc")), []int{ckDict}},
		{[]int{2}, rowsFrom(listFrom(0, 12), append(cycleOf(6, textOf("ab")), cycleOf(6, textOf("b"))...)), []int{ckRuns}},
		{[]int{1, 2, 1}, rowsFrom(listFrom(0, 4), intsOf(100, 101, 102, 103), textsOf("abc", "abc", "abc", "abc"), intsOf(1, 2, 1, 2)), []int{ckFrame, ckDict, ckFrame}},
		{[]int{1, 1}, rowsFrom(listFrom(0, 2), intsOf(mostNum, mostNum), intsOf(1, 2)), []int{ckDict, ckPlain}}, {[]int{1, 1}, rowsFrom(listFrom(0, 2), intsOf(1, 2), intsOf(mostNum, mostNum)), []int{ckPlain, ckDict}},
		{[]int{1}, nil, nil}, {[]int{1, 2}, []impl.Row{}, nil}, {nil, nil, nil}, {nil, []impl.Row{rowOf(1)}, nil}, {[]int{3}, []impl.Row{rowOf(1, impl.Val{Ty: 3})}, nil}, {[]int{1}, []impl.Row{rowOf(1)}, nil},
		{[]int{1}, rowsFrom([]int{1, 1}, intsOf(1, 2)), nil}, {[]int{1}, rowsFrom(listFrom(0, 13), intsOf(listFrom(0, 13)...)), nil}, {[]int{2}, rowsFrom([]int{1}, intsOf(7)), nil}, {[]int{1}, rowsFrom([]int{mostNum + 1}, intsOf(7)), nil},
	} {
		wantRows(t, c.cols, c.l)
		wantKinds(t, c.cols, c.l, c.want...)
	}
}

func TestGroupMemory(t *testing.T) {
	samples := append(groupSamples(), groupSample{nil, someRows()}, groupSample{[]int{tyInt, tyText}, unevenRows()}, groupSample{[]int{1}, risingRows([]int{1}, 13)})
	for _, s := range samples {
		l, checkRows := spareRows(t, s.l...)
		cols, checkCols := spare(t, tyInt, s.cols...)
		wantRowsOk(t, cols, l, plainRowsOk(s.cols, s.l))
		first, second := impl.PutGroup(cols, l), impl.PutGroup(cols, l)
		firstKinds, secondKinds := impl.KindsOf(cols, l), impl.KindsOf(cols, l)
		wantKinds(t, cols, l, impl.KindsOf(s.cols, s.l)...)
		scribble(first, 99)
		scribble(firstKinds, 99)
		b, checkBytes := spare(t, 0, second...)
		firstRows, _ := impl.GetGroup(cols, b)
		secondRows, ok := impl.GetGroup(cols, b)
		scribbleRows(firstRows)
		checkRows("RowsOk, PutGroup and KindsOf")
		checkCols("RowsOk, PutGroup, GetGroup and KindsOf")
		checkBytes("GetGroup")
		scribbleRows(l)
		scribble(cols, 77)
		scribble(b, 99)
		wantBytes(t, "PutGroup, its arguments and another result overwritten", second, plainGroup(s.cols, s.l))
		if want := impl.KindsOf(s.cols, s.l); !slices.Equal(secondKinds, want) {
			t.Fatalf("KindsOf, its arguments and another result overwritten: %v, want %v", secondKinds, want)
		}
		if ok && !sameRowsPlainly(secondRows, s.l) {
			t.Fatalf("GetGroup, its arguments and another result overwritten: %v, want %v", secondRows, s.l)
		}
	}
}

func TestChangedRowsMemory(t *testing.T) {
	for _, rows := range append(someLists(), slices.Repeat([]impl.Row{rowOf(5, intOf(1), textOf("a"))}, 9)) {
		for _, id := range []int{-1, 1, 2, 5, 9} {
			for _, values := range [][]impl.Val{nil, intsOf(1, 2, 3)} {
				l, checkRows := spareRows(t, rows...)
				r, checkRow := spareRow(t, rowOf(id, values...))
				ids, checkIds := spare(t, 0, id, 3)
				var results [][]impl.Row
				for range 2 {
					found, _ := impl.FindRow(l, id)
					results = append(results, impl.PutRow(l, r), impl.DropRows(l, ids), impl.DropRows(l, nil), []impl.Row{found})
				}
				for i := range 4 {
					scribbleRows(results[i])
				}
				checkRows("FindRow, DropRows and PutRow")
				checkRow("PutRow")
				checkIds("DropRows")
				scribbleRows(l)
				scribble(r.L, textOf("gone"))
				scribble(ids, 99)
				found, _ := plainFind(rows, id)
				for i, want := range [][]impl.Row{plainPut(rows, rowOf(id, values...)), plainDrop(rows, []int{id, 3}), rows, {found}} {
					if !sameRowsPlainly(results[4+i], want) {
						t.Fatalf("result %d of %v and %d, arguments and other results overwritten: %v, want %v", i, rows, id, results[4+i], want)
					}
				}
			}
		}
	}
}

// TestGroupRowsShareNoMemory overwrites one row of a result, which is no part of another one.
func TestGroupRowsShareNoMemory(t *testing.T) {
	r := rowOf(1, intOf(3), textOf("b"))
	cols := []int{tyInt, tyText}
	group := []impl.Row{r, {Id: 2, L: r.L}, {Id: 3, L: r.L}}
	decoded, _ := impl.GetGroup(cols, impl.PutGroup(cols, group))
	for _, got := range [][]impl.Row{decoded, impl.PutRow([]impl.Row{r, r}, r), impl.PutRow(nil, r), impl.DropRows([]impl.Row{r, r, r}, nil), impl.DropRows([]impl.Row{r, r, r}, []int{2})} {
		for i := range got {
			scribble(got[i].L[:cap(got[i].L)], textOf("gone"))
			for k := i + 1; k < len(got); k++ {
				wantSameRow(t, got[k], rowOf(got[k].Id, intOf(3), textOf("b")), true)
			}
		}
	}
	wantSameRow(t, r, rowOf(1, intOf(3), textOf("b")), true)
}

func TestGroupsStayTheSame(t *testing.T) {
	cols, l := []int{tyInt}, rowsFrom([]int{0, 2}, intsOf(4, 4))
	for range 3 {
		wantRows(t, cols, l)
		wantRows(t, cols, nil)
		wantRows(t, []int{tyText}, l)
		wantNoRows(t, cols, []byte{4, 0, 4, 6, 0, 8})
		wantDecodedRows(t, cols, []byte{4, 0, 4, 6, 0, 8, 8}, l)
		wantDecodedRows(t, cols, []byte{0}, nil)
		wantFound(t, l, 2)
		wantFound(t, l, 1)
		wantPut(t, l, rowOf(1, intOf(9)))
		wantDropped(t, l, []int{0})
		empty, _ := impl.GetGroup(cols, []byte{0})
		failed, _ := impl.GetGroup(cols, nil)
		for _, rows := range [][]impl.Row{empty, failed, impl.DropRows(nil, nil), impl.DropRows(l, []int{0, 2})} {
			scribbleRows(rows)
		}
		scribble(impl.KindsOf(cols, nil), 9)
		scribble(impl.PutGroup(nil, nil), 9)
	}
}
