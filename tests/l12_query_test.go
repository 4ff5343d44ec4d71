package tests

import (
	"fmt"
	"math"
	"math/rand/v2"
	"slices"
	"strconv"
	"strings"
	"testing"

	"loop.example/g00496/impl"
)

const (
	quRows  = 1
	quCount = 2
	quSum   = 3
	quLeast = 4
	quMost  = 5
)

func queryKinds() []int {
	return []int{quRows, quCount, quSum, quLeast, quMost}
}

// wrongQueryKinds returns numbers that are no kind; predicates have as many kinds.
func wrongQueryKinds() []int {
	return wrongPredKinds()
}

func everything() impl.Pred {
	return impl.Pred{Kind: prAll}
}

func nothing() impl.Pred {
	return notOf(everything())
}

func rowsQuery(p impl.Pred, out ...int) impl.Query {
	return impl.Query{Kind: quRows, P: p, Out: out}
}

func countQuery(p impl.Pred) impl.Query {
	return impl.Query{Kind: quCount, P: p}
}

func colQuery(kind int, p impl.Pred, col int) impl.Query {
	return impl.Query{Kind: kind, P: p, Col: col}
}

// queriesOf returns a valid query of each kind for an integer and a text, and for a column more than that.
func queriesOf(p impl.Pred) []impl.Query {
	return []impl.Query{
		rowsQuery(p, 0), rowsQuery(p, 1), rowsQuery(p, 1, 0), rowsQuery(p, 0, 0, 1), countQuery(p), colQuery(quSum, p, 0),
		colQuery(quLeast, p, 0), colQuery(quLeast, p, 1), colQuery(quMost, p, 0), colQuery(quMost, p, 1),
	}
}

// wildQueriesOf returns queries that are invalid for some columns or for all, and that have a meaning all the same.
func wildQueriesOf(p impl.Pred) []impl.Query {
	out := []impl.Query{rowsQuery(p), rowsQuery(p, -1, 0, 2), rowsQuery(p, 2, 2, 1, 0, 0, 1), rowsQuery(p, math.MaxInt, math.MinInt, 3, 1<<32)}
	for _, col := range []int{-1, 1, 2, 3, math.MaxInt, math.MinInt, 1 << 32} {
		for _, kind := range []int{quSum, quLeast, quMost} {
			out = append(out, colQuery(kind, p, col))
		}
	}
	for kind := -1; kind <= 7; kind++ {
		out = append(out, impl.Query{Kind: kind, P: p, Col: 1, Out: []int{1, 0}})
	}
	return out
}

// plainQueryOk checks the document's conditions one by one, apart from the program.
func plainQueryOk(cols []int, q impl.Query) bool {
	exists := func(k int) bool { return k >= 0 && k < len(cols) }
	if !plainPredOk(cols, q.P) {
		return false
	}
	switch {
	case q.Kind == quRows:
		missing := slices.ContainsFunc(q.Out, func(k int) bool { return !exists(k) })
		return q.Col == 0 && len(q.Out) > 0 && len(q.Out) <= mostCols && !missing
	case q.Kind == quCount:
		return q.Col == 0 && len(q.Out) == 0
	case q.Kind == quSum:
		return len(q.Out) == 0 && exists(q.Col) && cols[q.Col] == tyInt
	case q.Kind == quLeast, q.Kind == quMost:
		return len(q.Out) == 0 && exists(q.Col)
	}
	return false
}

func plainMeant(q impl.Query, l []impl.Row) []impl.Row {
	return slices.DeleteFunc(slices.Clone(l), func(r impl.Row) bool { return !plainTrue(q.P, r.L) })
}

// columnPlainly returns the values of a column; a row may lack it.
func columnPlainly(l []impl.Row, k int) []impl.Val {
	var out []impl.Val
	for _, r := range l {
		for i, v := range r.L {
			if i == k {
				out = append(out, v)
			}
		}
	}
	return out
}

// plainAnswer looks at all rows that count at once.
func plainAnswer(q impl.Query, l []impl.Row) impl.Result {
	var out impl.Result
	rows := plainMeant(q, l)
	values := columnPlainly(rows, q.Col)
	switch q.Kind {
	case quRows:
		for _, r := range rows {
			cut := impl.Row{Id: r.Id}
			for _, k := range q.Out {
				cut.L = append(cut.L, columnPlainly([]impl.Row{r}, k)...)
			}
			out.Rows = append(out.Rows, cut)
		}
	case quCount:
		out.N = len(rows)
	case quSum:
		sum := uint64(0)
		for _, v := range values {
			sum += uint64(v.N)
		}
		out.N = int(sum)
	case quLeast, quMost:
		z := plainZone(values)
		out.Has, out.V = len(values) > 0, map[int]impl.Val{quLeast: z.Lo, quMost: z.Hi}[q.Kind]
	}
	return out
}

func plainResultText(q impl.Query, r impl.Result) string {
	switch q.Kind {
	case quRows:
		s := ""
		for _, row := range r.Rows {
			s += "; #" + strconv.Itoa(row.Id)
			for _, v := range row.L {
				s += " " + impl.ValText(v)
			}
		}
		if s == "" {
			return "-"
		}
		return s[2:]
	case quCount, quSum:
		return strconv.Itoa(r.N)
	case quLeast, quMost:
		if r.Has {
			return impl.ValText(r.V)
		}
		return "none"
	}
	return ""
}

func sameRowsPlainly(a, b []impl.Row) bool {
	return slices.EqualFunc(a, b, func(x, y impl.Row) bool { return x.Id == y.Id && slices.Equal(x.L, y.L) })
}

func sameResultPlainly(a, b impl.Result) bool {
	return sameRowsPlainly(a.Rows, b.Rows) && a.N == b.N && a.Has == b.Has && a.V == b.V
}

// shownQuery leaves out what no message should show.
func shownQuery(q impl.Query) string {
	return fmt.Sprint("{", q.Kind, " ", shown(q.P, 5), " ", q.Col, " ", q.Out[:min(len(q.Out), 8)], "}")
}

func shownResult(r impl.Result) string {
	return fmt.Sprint("{", r.Rows[:min(len(r.Rows), 8)], " ", r.N, " ", r.Has, " ", r.V, "}")
}

func wantQueryOk(t *testing.T, cols []int, q impl.Query, want bool) {
	t.Helper()
	if got := impl.QueryOk(cols, q); got != want {
		t.Fatalf("QueryOk(%v, %s) = %v, want %v", cols[:min(len(cols), 5)], shownQuery(q), got, want)
	}
}

func wantAnswer(t *testing.T, q impl.Query, l []impl.Row, want impl.Result) {
	t.Helper()
	if got := impl.Answer(q, l); !sameResultPlainly(got, want) {
		t.Fatalf("Answer(%s, %d rows %v) = %s, want %s", shownQuery(q), len(l), l[:min(len(l), 8)], shownResult(got), shownResult(want))
	}
}

func wantMeant(t *testing.T, q impl.Query, l []impl.Row, want []impl.Row) {
	t.Helper()
	if got := impl.Meant(q, l); !sameRowsPlainly(got, want) {
		t.Fatalf("Meant(%s, %d rows %v) = %v, want %v", shownQuery(q), len(l), l[:min(len(l), 8)], got[:min(len(got), 8)], want[:min(len(want), 8)])
	}
}

func wantResultText(t *testing.T, q impl.Query, r impl.Result, want string) {
	t.Helper()
	if got := impl.ResultText(q, r); got != want {
		t.Fatalf("ResultText(%s, %s) = %.200q, want %.200q", shownQuery(q), shownResult(r), got, want)
	}
}

func wantJoined(t *testing.T, q impl.Query, a, b, want impl.Result) {
	t.Helper()
	if got := impl.Joined(q, a, b); !sameResultPlainly(got, want) {
		t.Fatalf("Joined(%s, %s, %s) = %s, want %s", shownQuery(q), shownResult(a), shownResult(b), shownResult(got), shownResult(want))
	}
}

func wantSameResult(t *testing.T, a, b impl.Result, want bool) {
	t.Helper()
	if impl.SameResult(a, b) != want || impl.SameResult(b, a) != want {
		t.Fatalf("SameResult(%s, %s) = %v and %v the other way round; want %v", shownResult(a), shownResult(b), impl.SameResult(a, b), impl.SameResult(b, a), want)
	}
}

// wantPlainly checks all that is computed from a query and rows.
func wantPlainly(t *testing.T, q impl.Query, l []impl.Row) {
	t.Helper()
	want := plainAnswer(q, l)
	wantAnswer(t, q, l, want)
	wantMeant(t, q, l, plainMeant(q, l))
	wantResultText(t, q, want, plainResultText(q, want))
}

// wantParts is P12 for one cut of a list.
func wantParts(t *testing.T, q impl.Query, l []impl.Row, at int) {
	t.Helper()
	a, b := impl.Answer(q, l[:at]), impl.Answer(q, l[at:])
	wantJoined(t, q, a, b, impl.Answer(q, l))
	wantSameResult(t, impl.Joined(q, a, b), impl.Answer(q, l), true)
}

// someRows returns rows for an integer and a text, with equal values among them.
func someRows() []impl.Row {
	return []impl.Row{
		rowOf(1, intOf(3), textOf("b")), rowOf(2, intOf(-5), textOf("a")), rowOf(4, intOf(3), textOf("")), rowOf(5, intOf(8), textOf("c")),
		rowOf(9, intOf(-5), textOf("c")), rowOf(10, intOf(0), textOf("b")),
	}
}

// unevenRows returns rows that lack columns or have values of any type, in no order.
func unevenRows() []impl.Row {
	return []impl.Row{
		rowOf(7), rowOf(3, intOf(4)), rowOf(3, textOf("a"), intOf(2)), rowOf(-2, intOf(1), textOf("b"), intOf(6)), {}, rowOf(0, impl.Val{}, impl.Val{Ty: 9, N: 5, S: "Z"}),
		rowOf(8, textOf("x"), textOf("y"), textOf("z"), textOf("w")), rowOf(5, impl.Val{Ty: tyText, N: 3, S: "A"}, intOf(mostNum+1)), rowOf(6, intOf(4), textOf("b")),
	}
}

func TestQueryConstants(t *testing.T) {
	if impl.QuRows != quRows || impl.QuCount != quCount || impl.QuSum != quSum || impl.QuLeast != quLeast || impl.QuMost != quMost {
		t.Error(impl.QuRows, impl.QuCount, impl.QuSum, impl.QuLeast, impl.QuMost)
	}
}

func TestQueryOkTable(t *testing.T) {
	all := everything()
	for _, c := range []struct {
		cols []int
		q    impl.Query
		want bool
	}{
		{[]int{1, 2}, rowsQuery(all, 0), true}, {[]int{1, 2}, rowsQuery(all, 1), true}, {[]int{1, 2}, rowsQuery(all, 1, 0), true}, {[]int{1, 2}, rowsQuery(all, 1, 1, 1), true},
		{[]int{1, 2}, rowsQuery(all), false}, {[]int{1, 2}, rowsQuery(all, 2), false}, {[]int{1, 2}, rowsQuery(all, 0, 2), false}, {[]int{1, 2}, rowsQuery(all, 0, -1), false},
		{[]int{1, 2}, rowsQuery(all, 0, 1, 0, 1), false}, {[]int{1, 2, 1}, rowsQuery(all, 2, 1, 0), true}, {[]int{1}, rowsQuery(all, 0, 0, 0), true}, {[]int{1}, rowsQuery(all, 0, 0, 0, 0), false},
		{[]int{1, 2}, countQuery(all), true}, {[]int{2}, countQuery(all), true}, {[]int{1, 2}, colQuery(quCount, all, 1), false}, {[]int{1, 2}, impl.Query{Kind: quCount, P: all, Out: []int{0}}, false},
		{[]int{1, 2}, colQuery(quSum, all, 0), true}, {[]int{1, 2}, colQuery(quSum, all, 1), false}, {[]int{1, 2}, colQuery(quSum, all, 2), false}, {[]int{2, 2, 1}, colQuery(quSum, all, 2), true},
		{[]int{1, 2}, colQuery(quLeast, all, 0), true}, {[]int{1, 2}, colQuery(quLeast, all, 1), true}, {[]int{1, 2}, colQuery(quLeast, all, 2), false}, {[]int{1, 2}, colQuery(quLeast, all, -1), false},
		{[]int{1, 2}, colQuery(quMost, all, 0), true}, {[]int{1, 2}, colQuery(quMost, all, 1), true}, {[]int{1, 2}, colQuery(quMost, all, 2), false}, {[]int{1, 2}, colQuery(quMost, all, -1), false},
		{[]int{1, 2}, impl.Query{Kind: quSum, P: all, Out: []int{0}}, false}, {[]int{1, 2}, impl.Query{Kind: quLeast, P: all, Out: []int{0}}, false}, {[]int{1, 2}, impl.Query{Kind: quMost, P: all, Out: []int{0}}, false},
		{[]int{1, 2}, impl.Query{Kind: quRows, P: all, Col: 1, Out: []int{0}}, false}, {[]int{1, 2}, impl.Query{}, false}, {[]int{1, 2}, impl.Query{P: all}, false}, {[]int{1, 2}, impl.Query{Kind: quCount}, false},
		{nil, countQuery(all), false}, {[]int{1, 2, 1, 2}, countQuery(all), false}, {[]int{0}, countQuery(all), false}, {[]int{3}, colQuery(quMost, all, 0), false}, {[]int{1, 3}, colQuery(quSum, all, 0), false},
		{[]int{1, 2}, countQuery(impl.Pred{}), false}, {[]int{1, 2}, countQuery(cmpOf(0, cpLess, intOf(5))), true}, {[]int{1, 2}, countQuery(cmpOf(1, cpLess, intOf(5))), false}, {[]int{1}, countQuery(cmpOf(1, cpLess, textOf("a"))), false},
	} {
		wantQueryOk(t, c.cols, c.q, c.want)
		if plainQueryOk(c.cols, c.q) != c.want {
			t.Fatalf("the test takes %s for another one with %v", shownQuery(c.q), c.cols)
		}
	}
}

func TestQueryOkCols(t *testing.T) {
	for _, cols := range goodCols() {
		for _, q := range append(queriesOf(everything()), wildQueriesOf(everything())...) {
			wantQueryOk(t, cols, q, plainQueryOk(cols, q))
		}
	}
	for _, cols := range wrongCols() {
		for _, q := range append(queriesOf(everything()), rowsQuery(everything(), len(cols)-1), colQuery(quMost, everything(), len(cols)-1)) {
			wantQueryOk(t, cols, q, false)
		}
	}
}

func TestQueryOkKinds(t *testing.T) {
	for _, cols := range goodCols() {
		for _, kind := range wrongQueryKinds() {
			for _, out := range [][]int{nil, {}, {0}, {0, 0, 0}} {
				wantQueryOk(t, cols, impl.Query{Kind: kind, P: everything(), Out: out}, false)
			}
		}
	}
}

func TestQueryOkUnusedFields(t *testing.T) {
	for _, cols := range goodCols() {
		for _, kind := range queryKinds() {
			for _, out := range [][]int{nil, {}, {0}, {1}, {0, 0}, {-1}, {len(cols)}, {0, 1, 2}, {0, 0, 0}, {0, 0, 0, 0}} {
				for _, col := range []int{0, 1, 2, 3, 4, -1, len(cols), math.MaxInt, math.MinInt, 1 << 8, 1 << 32, -1 << 32} {
					q := impl.Query{Kind: kind, P: everything(), Col: col, Out: out}
					wantQueryOk(t, cols, q, plainQueryOk(cols, q))
				}
			}
			wantQueryOk(t, cols, impl.Query{Kind: kind, P: everything(), Out: []int{0, 0, 0}[:0]}, kind != quRows && (kind != quSum || cols[0] == tyInt))
		}
	}
}

func TestQueryOkOut(t *testing.T) {
	for _, cols := range goodCols() {
		for _, out := range listsOf(4, -1, 0, 1, 2, 3) {
			q := rowsQuery(everything(), out...)
			wantQueryOk(t, cols, q, plainQueryOk(cols, q))
		}
		for _, k := range []int{-1, len(cols), len(cols) + 1, math.MaxInt, math.MinInt, 1 << 8, 1 << 32, -1 << 32, math.MinInt + 1} {
			wantQueryOk(t, cols, rowsQuery(everything(), k), false)
			wantQueryOk(t, cols, rowsQuery(everything(), k, 0, 0), false)
			wantQueryOk(t, cols, rowsQuery(everything(), 0, k, 0), false)
			wantQueryOk(t, cols, rowsQuery(everything(), 0, 0, k), false)
		}
		for k := range 70 {
			out := slices.Repeat([]int{len(cols) - 1}, k)
			wantQueryOk(t, cols, rowsQuery(everything(), out...), k >= 1 && k <= mostCols)
		}
		wantQueryOk(t, cols, rowsQuery(everything(), make([]int, 1<<16+1)...), false)
		wantQueryOk(t, cols, rowsQuery(everything(), []int{0, 0, 0, 9}[:3]...), true)
	}
}

func TestQueryOkPred(t *testing.T) {
	cols := []int{tyInt, tyText}
	for _, p := range goodPreds() {
		for _, q := range queriesOf(p) {
			wantQueryOk(t, cols, q, true)
			wantQueryOk(t, cols[:1], q, plainQueryOk(cols[:1], q))
		}
		for _, changed := range changedPreds(p) {
			ok := plainPredOk(cols, changed)
			wantQueryOk(t, cols, rowsQuery(changed, 0), ok)
			wantQueryOk(t, cols, countQuery(changed), ok)
			wantQueryOk(t, cols, colQuery(quSum, changed, 0), ok)
			wantQueryOk(t, cols, colQuery(quLeast, changed, 1), ok)
			wantQueryOk(t, cols, colQuery(quMost, changed, 1), ok)
		}
	}
}

func TestAnswerTable(t *testing.T) {
	all, low := everything(), cmpOf(0, cpLess, intOf(3))
	l := someRows()
	for _, c := range []struct {
		q    impl.Query
		want impl.Result
	}{
		{countQuery(all), impl.Result{N: 6}}, {countQuery(low), impl.Result{N: 3}}, {countQuery(nothing()), impl.Result{}}, {countQuery(cmpOf(0, cpSame, intOf(8))), impl.Result{N: 1}},
		{colQuery(quSum, all, 0), impl.Result{N: 4}}, {colQuery(quSum, low, 0), impl.Result{N: -10}}, {colQuery(quSum, nothing(), 0), impl.Result{}},
		{colQuery(quLeast, all, 0), impl.Result{Has: true, V: intOf(-5)}}, {colQuery(quMost, all, 0), impl.Result{Has: true, V: intOf(8)}},
		{colQuery(quLeast, all, 1), impl.Result{Has: true, V: textOf("")}}, {colQuery(quMost, all, 1), impl.Result{Has: true, V: textOf("c")}},
		{colQuery(quLeast, low, 1), impl.Result{Has: true, V: textOf("a")}}, {colQuery(quMost, low, 0), impl.Result{Has: true, V: intOf(0)}},
		{colQuery(quLeast, nothing(), 0), impl.Result{}}, {colQuery(quMost, nothing(), 1), impl.Result{}},
		{colQuery(quLeast, cmpOf(0, cpSame, intOf(0)), 0), impl.Result{Has: true, V: intOf(0)}}, {colQuery(quMost, cmpOf(1, cpSame, textOf("")), 1), impl.Result{Has: true, V: textOf("")}},
		{rowsQuery(low, 1), impl.Result{Rows: []impl.Row{rowOf(2, textOf("a")), rowOf(9, textOf("c")), rowOf(10, textOf("b"))}}},
		{rowsQuery(low, 0, 0), impl.Result{Rows: []impl.Row{rowOf(2, intOf(-5), intOf(-5)), rowOf(9, intOf(-5), intOf(-5)), rowOf(10, intOf(0), intOf(0))}}},
		{rowsQuery(cmpOf(0, cpSame, intOf(8)), 1, 0), impl.Result{Rows: []impl.Row{rowOf(5, textOf("c"), intOf(8))}}}, {rowsQuery(nothing(), 0), impl.Result{}},
		{rowsQuery(cmpOf(0, cpSame, intOf(8))), impl.Result{Rows: []impl.Row{rowOf(5)}}}, {rowsQuery(cmpOf(0, cpSame, intOf(8)), 2, 1, -1), impl.Result{Rows: []impl.Row{rowOf(5, textOf("c"))}}},
	} {
		wantAnswer(t, c.q, l, c.want)
		if !sameResultPlainly(plainAnswer(c.q, l), c.want) {
			t.Fatalf("the test's own answer to %s is wrong", shownQuery(c.q))
		}
	}
}

// TestAnswerNoRows has queries that no row matches, since there is none or since none fits.
func TestAnswerNoRows(t *testing.T) {
	for _, p := range append(goodPreds(), nothing()) {
		for _, q := range append(queriesOf(p), wildQueriesOf(p)...) {
			wantAnswer(t, q, nil, impl.Result{})
			wantAnswer(t, q, []impl.Row{}, impl.Result{})
			wantAnswer(t, q, someRows()[:0], impl.Result{})
			wantMeant(t, q, nil, nil)
			wantMeant(t, q, []impl.Row{}, nil)
			wantMeant(t, q, someRows()[:0], nil)
		}
	}
	for _, p := range []impl.Pred{nothing(), {}, {Kind: 6}, cmpOf(0, cpMore, intOf(8)), cmpOf(0, cpLess, intOf(-5)), cmpOf(1, cpMore, textOf("c")), cmpOf(2, cpElse, intOf(0)), andOf(cmpOf(0, cpSame, intOf(0)), cmpOf(1, cpSame, textOf("a"))), cmpOf(0, cpSame, intOf(1)), orOf()} {
		for _, q := range append(queriesOf(p), wildQueriesOf(p)...) {
			wantAnswer(t, q, someRows(), impl.Result{})
			wantMeant(t, q, someRows(), nil)
			wantResultText(t, q, impl.Answer(q, someRows()), map[int]string{quRows: "-", quCount: "0", quSum: "0", quLeast: "none", quMost: "none"}[q.Kind])
			wantJoined(t, q, impl.Answer(q, someRows()), impl.Answer(q, nil), impl.Result{})
		}
	}
}

func TestAnswerSomeRows(t *testing.T) {
	preds := append(goodPreds(), fewPreds(2)...)
	for v := -6; v <= 9; v++ {
		for _, op := range allOps() {
			preds = append(preds, cmpOf(0, op, intOf(v)))
		}
	}
	for _, p := range preds {
		for _, q := range append(queriesOf(p), wildQueriesOf(p)...) {
			wantPlainly(t, q, someRows())
			wantPlainly(t, q, someRows()[2:5])
			wantPlainly(t, q, slices.Repeat(someRows()[:2], 3))
			wantPlainly(t, q, unevenRows())
			wantPlainly(t, q, unevenRows()[1:2])
		}
	}
	for _, l := range sampleRows() {
		for _, q := range append(queriesOf(everything()), wildQueriesOf(everything())...) {
			wantPlainly(t, q, l)
		}
	}
}

// TestAnswerShortLists has all short lists of some rows.
func TestAnswerShortLists(t *testing.T) {
	rows := []impl.Row{rowOf(1, intOf(2), textOf("b")), rowOf(2, intOf(-2), textOf("a")), rowOf(3, intOf(2)), rowOf(4), rowOf(5, textOf("c"), intOf(1)), rowOf(6, impl.Val{}, textOf("b"))}
	var queries []impl.Query
	for _, p := range []impl.Pred{everything(), nothing(), cmpOf(0, cpMost, intOf(0)), cmpOf(1, cpElse, textOf("b")), notOf(cmpOf(0, cpSame, intOf(2)))} {
		queries = append(queries, append(queriesOf(p), wildQueriesOf(p)...)...)
	}
	for _, l := range listsOf(3, rows...) {
		for _, q := range queries {
			wantPlainly(t, q, l)
			for at := range len(l) + 1 {
				wantParts(t, q, l, at)
			}
		}
	}
}

func TestAnswerOtherKinds(t *testing.T) {
	for _, kind := range wrongQueryKinds() {
		for _, l := range [][]impl.Row{nil, someRows(), unevenRows()} {
			q := impl.Query{Kind: kind, P: everything(), Out: []int{0}}
			wantAnswer(t, q, l, impl.Result{})
			wantMeant(t, q, l, l)
			q.Col = 1
			wantAnswer(t, q, l, impl.Result{})
			q.P = cmpOf(0, cpLess, intOf(3))
			wantMeant(t, q, l, plainMeant(q, l))
		}
	}
}

// TestAnswerIgnoresFields sets the fields that a kind does not use.
func TestAnswerIgnoresFields(t *testing.T) {
	for _, l := range [][]impl.Row{someRows(), unevenRows()} {
		for _, q := range queriesOf(cmpOf(0, cpMost, intOf(3))) {
			want := plainAnswer(q, l)
			for _, n := range []int{-1, 1, 2, 5, math.MaxInt, math.MinInt} {
				filled := q
				if q.Kind == quRows || q.Kind == quCount {
					filled.Col = n
				}
				if q.Kind != quRows {
					filled.Out = []int{0, n}
				}
				wantAnswer(t, filled, l, want)
				wantMeant(t, filled, l, plainMeant(q, l))
				wantResultText(t, filled, want, plainResultText(q, want))
				wantJoined(t, filled, plainAnswer(q, l[:2]), plainAnswer(q, l[2:]), want)
			}
		}
	}
}

func TestAnswerSumWraps(t *testing.T) {
	for _, c := range []struct {
		l    []int
		want int
	}{
		{[]int{math.MaxInt, 1}, math.MinInt}, {[]int{math.MinInt, -1}, math.MaxInt}, {[]int{math.MaxInt, math.MaxInt}, -2}, {[]int{math.MinInt, math.MinInt}, 0},
		{[]int{math.MaxInt, math.MinInt}, -1}, {[]int{math.MaxInt, math.MaxInt, 2}, 0}, {[]int{math.MaxInt, 1, -1}, math.MaxInt}, {[]int{1 << 32, 1 << 32}, 1 << 33},
		{[]int{1<<31 - 1, 1}, 1 << 31}, {[]int{-1 << 31, -1}, -1<<31 - 1}, {[]int{mostNum, mostNum, mostNum, mostNum, mostNum}, 5000000000}, {[]int{-mostNum, -mostNum, -mostNum}, -3000000000},
		{[]int{1<<53 + 1, 1}, 1<<53 + 2},
	} {
		var l []impl.Row
		for i, n := range c.l {
			l = append(l, rowOf(i, textOf("a"), intOf(n)))
		}
		q := colQuery(quSum, everything(), 1)
		wantAnswer(t, q, l, impl.Result{N: c.want})
		for at := range len(l) + 1 {
			wantParts(t, q, l, at)
		}
	}
}

// TestAnswerEqualEnds has several rows with the least or the greatest value.
func TestAnswerEqualEnds(t *testing.T) {
	for _, v := range []impl.Val{intOf(0), intOf(-7), textOf(""), textOf("red"), {}, {Ty: 9, N: 4, S: "Z"}} {
		for _, other := range append(oneFieldApart(v), v) {
			for _, l := range listsOf(4, v, other) {
				var rows []impl.Row
				for i, w := range l {
					rows = append(rows, rowOf(i, w))
				}
				wantPlainly(t, colQuery(quLeast, everything(), 0), rows)
				wantPlainly(t, colQuery(quMost, everything(), 0), rows)
			}
		}
	}
	z := risingVals()
	first, last := rowOf(1, z[0]), rowOf(2, z[len(z)-1])
	for _, v := range z {
		l := []impl.Row{rowOf(3, v), last, rowOf(4, v), first, rowOf(5, v)}
		wantAnswer(t, colQuery(quLeast, everything(), 0), l, impl.Result{Has: true, V: z[0]})
		wantAnswer(t, colQuery(quMost, everything(), 0), l, impl.Result{Has: true, V: z[len(z)-1]})
	}
}

func TestAnswerManyRows(t *testing.T) {
	var l []impl.Row
	for i := range 20000 {
		l = append(l, rowOf(i, intOf(i*7919%20000-5000), textOf(strconv.Itoa(i*31%1000))))
	}
	for _, p := range []impl.Pred{everything(), nothing(), cmpOf(0, cpMore, intOf(0)), cmpOf(1, cpSame, textOf("7")), cmpOf(0, cpSame, intOf(-5000))} {
		for _, q := range queriesOf(p) {
			want := plainAnswer(q, l)
			wantAnswer(t, q, l, want)
			wantParts(t, q, l, 7777)
		}
	}
	wide := rowOf(1, slices.Repeat([]impl.Val{intOf(2)}, 5000)...)
	wantPlainly(t, rowsQuery(everything(), 4999, 5000, 0), []impl.Row{wide})
	wantPlainly(t, colQuery(quSum, everything(), 4999), []impl.Row{wide, wide})
	wantPlainly(t, rowsQuery(everything(), slices.Repeat([]int{0, 1}, 5000)...), someRows())
}

func TestAnswerWithinCapacity(t *testing.T) {
	l := someRows()
	for i := range l {
		l[i].L = append(l[i].L, textOf("more"), intOf(77))[:2]
	}
	for _, q := range append(queriesOf(everything()), rowsQuery(everything(), 2, 3), colQuery(quSum, everything(), 3), colQuery(quMost, everything(), 2)) {
		for k := range len(l) {
			wantPlainly(t, q, l[:k])
		}
		q.Out = append(q.Out, 1, 1, 0)[:len(q.Out)]
		wantPlainly(t, q, l[:3])
	}
}

func TestSameResult(t *testing.T) {
	full := impl.Result{Rows: []impl.Row{rowOf(1, intOf(3), textOf("a")), rowOf(2, intOf(4))}, N: 7, Has: true, V: textOf("b")}
	for _, r := range []impl.Result{{}, {Rows: []impl.Row{}}, {N: -1}, {Has: true}, {Has: true, V: intOf(0)}, {V: textOf("")}, {Rows: []impl.Row{{}}}, full} {
		same := r
		same.Rows = slices.Clone(r.Rows)
		wantSameResult(t, r, same, true)
		var others []impl.Result
		change := func(alter func(x *impl.Result)) {
			other := r
			other.Rows = slices.Clone(r.Rows)
			alter(&other)
			others = append(others, other)
		}
		change(func(x *impl.Result) { x.Has = !x.Has })
		for _, d := range []int{1, -1, 1 << 8, 1 << 32, math.MinInt} {
			change(func(x *impl.Result) { x.N += d })
			change(func(x *impl.Result) { x.V.N += d })
			change(func(x *impl.Result) { x.V.Ty += d })
		}
		change(func(x *impl.Result) { x.V.S += "0" })
		change(func(x *impl.Result) { x.Rows = append(x.Rows, impl.Row{}) })
		change(func(x *impl.Result) { x.Rows = append([]impl.Row{rowOf(9)}, x.Rows...) })
		for i, row := range r.Rows {
			change(func(x *impl.Result) { x.Rows = slices.Delete(x.Rows, i, i+1) })
			for _, changed := range changedRows(row) {
				change(func(x *impl.Result) { x.Rows[i] = changed })
			}
		}
		for _, other := range others {
			wantSameResult(t, r, other, false)
		}
	}
	turned := full
	turned.Rows = []impl.Row{full.Rows[1], full.Rows[0]}
	wantSameResult(t, full, turned, false)
	wantSameResult(t, impl.Result{}, impl.Result{Rows: []impl.Row{}}, true)
	wantSameResult(t, impl.Result{Rows: []impl.Row{{}}}, impl.Result{Rows: []impl.Row{{L: []impl.Val{}}}}, true)
	wantSameResult(t, impl.Result{Rows: full.Rows[:1]}, impl.Result{Rows: slices.Clone(full.Rows[:1])}, true)
	wantSameResult(t, impl.Result{Rows: full.Rows[:1]}, impl.Result{Rows: full.Rows}, false)
	wantSameResult(t, impl.Result{Rows: full.Rows[:0]}, impl.Result{}, true)
}

func TestMeant(t *testing.T) {
	l := someRows()
	for _, c := range []struct {
		p    impl.Pred
		want []int
	}{
		{everything(), []int{0, 1, 2, 3, 4, 5}}, {nothing(), nil}, {impl.Pred{}, nil}, {cmpOf(0, cpSame, intOf(3)), []int{0, 2}}, {cmpOf(0, cpSame, intOf(8)), []int{3}},
		{cmpOf(1, cpMost, textOf("b")), []int{0, 1, 2, 5}}, {andOf(cmpOf(0, cpLess, intOf(0)), cmpOf(1, cpMore, textOf("b"))), []int{4}}, {cmpOf(2, cpElse, intOf(1)), nil},
		{notOf(cmpOf(0, cpSame, intOf(3))), []int{1, 3, 4, 5}}, {orOf(cmpOf(0, cpSame, intOf(8)), cmpOf(1, cpSame, textOf("b"))), []int{0, 3, 5}},
	} {
		var want []impl.Row
		for _, i := range c.want {
			want = append(want, l[i])
		}
		for kind := -1; kind <= 7; kind++ {
			wantMeant(t, impl.Query{Kind: kind, P: c.p, Col: kind, Out: []int{kind}}, l, want)
			wantMeant(t, impl.Query{Kind: kind, P: c.p}, l, want)
		}
	}
	wantMeant(t, impl.Query{P: everything()}, turnedRows(l), turnedRows(l))
	wantMeant(t, impl.Query{P: everything()}, unevenRows(), unevenRows())
}

func turnedRows(l []impl.Row) []impl.Row {
	out := slices.Clone(l)
	slices.Reverse(out)
	return out
}

func TestResultText(t *testing.T) {
	full := impl.Result{Rows: []impl.Row{rowOf(1, intOf(3), textOf("a")), rowOf(2, intOf(-4), textOf(""))}, N: 7, Has: true, V: textOf("b")}
	empty := impl.Result{N: 7, V: textOf("b")}
	rows, count, sum, least, most := rowsQuery(everything(), 0), countQuery(everything()), colQuery(quSum, everything(), 0), colQuery(quLeast, everything(), 0), colQuery(quMost, everything(), 0)
	for _, c := range []struct {
		q    impl.Query
		r    impl.Result
		want string
	}{
		{rows, impl.Result{}, "-"}, {rows, impl.Result{Rows: []impl.Row{}}, "-"}, {rows, empty, "-"}, {rows, full, "#1 3 'a; #2 -4 '"}, {rows, impl.Result{Rows: full.Rows[:1]}, "#1 3 'a"},
		{rows, impl.Result{Rows: full.Rows[:0]}, "-"}, {rows, impl.Result{Rows: []impl.Row{{}}}, "#0"}, {rows, impl.Result{Rows: []impl.Row{{}, rowOf(-5), {}}}, "#0; #-5; #0"},
		{rows, impl.Result{Rows: []impl.Row{rowOf(3, impl.Val{}), rowOf(4, textOf("A"), intOf(1))}}, "#3 ; #4  1"}, {rows, impl.Result{Rows: slices.Repeat(full.Rows[:1], 3)}, "#1 3 'a; #1 3 'a; #1 3 'a"},
		{count, impl.Result{}, "0"}, {count, full, "7"}, {count, empty, "7"}, {count, impl.Result{N: -3}, "-3"}, {count, impl.Result{N: 1}, "1"},
		{sum, impl.Result{}, "0"}, {sum, full, "7"}, {sum, empty, "7"}, {sum, impl.Result{N: -105}, "-105"}, {sum, impl.Result{N: math.MaxInt}, "9223372036854775807"}, {sum, impl.Result{N: math.MinInt}, "-9223372036854775808"},
		{least, impl.Result{}, "none"}, {least, full, "'b"}, {least, empty, "none"}, {least, impl.Result{Has: true, V: intOf(-4)}, "-4"}, {least, impl.Result{Has: true, V: textOf("")}, "'"}, {least, impl.Result{Has: true}, ""},
		{most, impl.Result{}, "none"}, {most, full, "'b"}, {most, empty, "none"}, {most, impl.Result{Has: true, V: intOf(0)}, "0"}, {most, impl.Result{Has: true, V: textOf("none")}, "'none"}, {most, impl.Result{Has: true, V: textOf("A")}, ""},
	} {
		wantResultText(t, c.q, c.r, c.want)
		if plainResultText(c.q, c.r) != c.want {
			t.Fatalf("the test's own text of %s is wrong", shownResult(c.r))
		}
	}
	for _, kind := range wrongQueryKinds() {
		for _, r := range []impl.Result{{}, full, empty} {
			wantResultText(t, impl.Query{Kind: kind, P: everything(), Out: []int{0}}, r, "")
		}
	}
	many := impl.Result{Rows: slices.Repeat(full.Rows[:1], 50000)}
	wantResultText(t, rows, many, strings.Repeat("#1 3 'a; ", 49999)+"#1 3 'a")
}

func TestJoinedTable(t *testing.T) {
	a, b := rowOf(1, intOf(3)), rowOf(2, textOf("a"), intOf(4))
	val := func(v impl.Val) impl.Result { return impl.Result{Has: true, V: v} }
	rows := func(l ...impl.Row) impl.Result { return impl.Result{Rows: l} }
	num := func(n int) impl.Result { return impl.Result{N: n} }
	for _, c := range []struct {
		kind       int
		a, b, want impl.Result
	}{
		{quRows, rows(), rows(), rows()}, {quRows, rows(a), rows(), rows(a)}, {quRows, rows(), rows(b), rows(b)}, {quRows, rows(a), rows(b), rows(a, b)}, {quRows, rows(b), rows(a), rows(b, a)}, {quRows, rows(a, b), rows(a, a), rows(a, b, a, a)},
		{quRows, impl.Result{Rows: []impl.Row{}}, impl.Result{}, impl.Result{}}, {quRows, impl.Result{Rows: []impl.Row{}}, rows(a), rows(a)}, {quRows, rows(impl.Row{}), rows(impl.Row{}), rows(impl.Row{}, impl.Row{})},
		{quCount, num(0), num(0), num(0)}, {quCount, num(2), num(3), num(5)}, {quCount, num(0), num(1), num(1)}, {quCount, num(math.MaxInt), num(1), num(math.MinInt)},
		{quSum, num(0), num(0), num(0)}, {quSum, num(-2), num(3), num(1)}, {quSum, num(math.MaxInt), num(1), num(math.MinInt)}, {quSum, num(math.MinInt), num(-1), num(math.MaxInt)}, {quSum, num(math.MinInt), num(math.MinInt), num(0)}, {quSum, num(math.MaxInt), num(math.MaxInt), num(-2)},
		{quLeast, impl.Result{}, impl.Result{}, impl.Result{}}, {quLeast, val(intOf(3)), impl.Result{}, val(intOf(3))}, {quLeast, impl.Result{}, val(intOf(3)), val(intOf(3))}, {quLeast, val(intOf(3)), val(intOf(4)), val(intOf(3))}, {quLeast, val(intOf(4)), val(intOf(3)), val(intOf(3))},
		{quLeast, val(intOf(3)), val(intOf(3)), val(intOf(3))}, {quLeast, val(textOf("")), val(textOf("a")), val(textOf(""))}, {quLeast, val(textOf("b")), val(textOf("ab")), val(textOf("ab"))}, {quLeast, val(textOf("a")), val(intOf(9)), val(intOf(9))}, {quLeast, val(intOf(-9)), impl.Result{V: intOf(-10)}, val(intOf(-9))},
		{quLeast, impl.Result{}, val(impl.Val{}), val(impl.Val{})}, {quLeast, val(intOf(0)), impl.Result{}, val(intOf(0))}, {quLeast, val(textOf("")), impl.Result{}, val(textOf(""))}, {quLeast, val(intOf(5)), val(impl.Val{}), val(impl.Val{})},
		{quMost, impl.Result{}, impl.Result{}, impl.Result{}}, {quMost, val(intOf(3)), impl.Result{}, val(intOf(3))}, {quMost, impl.Result{}, val(intOf(-3)), val(intOf(-3))}, {quMost, val(intOf(3)), val(intOf(4)), val(intOf(4))}, {quMost, val(intOf(4)), val(intOf(3)), val(intOf(4))},
		{quMost, val(intOf(3)), val(intOf(3)), val(intOf(3))}, {quMost, val(textOf("")), val(textOf("a")), val(textOf("a"))}, {quMost, val(textOf("b")), val(textOf("ab")), val(textOf("b"))}, {quMost, val(textOf("a")), val(intOf(9)), val(textOf("a"))}, {quMost, impl.Result{V: textOf("z")}, val(intOf(-9)), val(intOf(-9))},
		{quMost, impl.Result{}, val(impl.Val{Ty: -1}), val(impl.Val{Ty: -1})}, {quMost, val(intOf(-4)), impl.Result{}, val(intOf(-4))}, {quMost, val(impl.Val{}), val(impl.Val{Ty: -1}), val(impl.Val{})},
	} {
		for _, q := range []impl.Query{{Kind: c.kind}, {Kind: c.kind, P: nothing(), Col: 1, Out: []int{0}}} {
			wantJoined(t, q, c.a, c.b, c.want)
		}
	}
}

// TestJoinedOtherFields has results that are no results of the query: the joined one is a result of it in its form.
func TestJoinedOtherFields(t *testing.T) {
	a := impl.Result{Rows: []impl.Row{rowOf(1, intOf(3))}, N: 4, Has: true, V: intOf(5)}
	b := impl.Result{Rows: []impl.Row{rowOf(2, intOf(6))}, N: -7, Has: true, V: intOf(8)}
	for kind, want := range map[int]impl.Result{
		quRows: {Rows: []impl.Row{a.Rows[0], b.Rows[0]}}, quCount: {N: -3}, quSum: {N: -3}, quLeast: {Has: true, V: intOf(5)}, quMost: {Has: true, V: intOf(8)},
	} {
		wantJoined(t, impl.Query{Kind: kind}, a, b, want)
	}
	for _, kind := range wrongQueryKinds() {
		wantJoined(t, impl.Query{Kind: kind, P: everything(), Out: []int{0}}, a, b, impl.Result{})
		wantJoined(t, impl.Query{Kind: kind}, impl.Result{}, impl.Result{}, impl.Result{})
	}
}

// TestJoinedEnds joins any two values of a rising list.
func TestJoinedEnds(t *testing.T) {
	all := risingVals()
	for i := 0; i < len(all); i += 7 {
		for k := 0; k < len(all); k += 5 {
			a, b := impl.Result{Has: true, V: all[i]}, impl.Result{Has: true, V: all[k]}
			wantJoined(t, impl.Query{Kind: quLeast}, a, b, impl.Result{Has: true, V: all[min(i, k)]})
			wantJoined(t, impl.Query{Kind: quMost}, a, b, impl.Result{Has: true, V: all[max(i, k)]})
		}
	}
}

// TestQueryOfTwoLists is P12.
func TestQueryOfTwoLists(t *testing.T) {
	for _, p := range append(goodPreds(), nothing()) {
		for _, q := range append(queriesOf(p), wildQueriesOf(p)...) {
			for _, l := range [][]impl.Row{someRows(), unevenRows(), turnedRows(someRows())} {
				for at := range len(l) + 1 {
					wantParts(t, q, l, at)
				}
				wantJoined(t, q, impl.Answer(q, l), impl.Result{}, impl.Answer(q, l))
				wantJoined(t, q, impl.Result{}, impl.Answer(q, l), impl.Answer(q, l))
			}
		}
	}
}

// chanceQuery makes a query that is valid for an integer and a text.
func chanceQuery(r *rand.Rand) impl.Query {
	l := queriesOf(chanceGood(r))
	return l[r.IntN(len(l))]
}

// TestQueryOfManyLists joins the results on several parts, in two groupings.
func TestQueryOfManyLists(t *testing.T) {
	r := fixedChance()
	matched, none := 0, 0
	for range 20000 {
		q, l := chanceQuery(r), chanceRows(r, 9)
		wantQueryOk(t, []int{tyInt, tyText}, q, true)
		wantPlainly(t, q, l)
		first := r.IntN(len(l) + 1)
		second := first + r.IntN(len(l)-first+1)
		a, b, c := impl.Answer(q, l[:first]), impl.Answer(q, l[first:second]), impl.Answer(q, l[second:])
		want := plainAnswer(q, l)
		wantJoined(t, q, impl.Joined(q, a, b), c, want)
		wantJoined(t, q, a, impl.Joined(q, b, c), want)
		if len(plainMeant(q, l)) > 0 {
			matched++
		} else {
			none++
		}
	}
	if matched < 1000 || none < 1000 {
		t.Errorf("%d queries match a row, and %d none", matched, none)
	}
}

// TestOnlyMeantRowsCount changes the rows for which the predicate does not hold.
func TestOnlyMeantRowsCount(t *testing.T) {
	r := fixedChance()
	for range 5000 {
		q, l := chanceQuery(r), chanceRows(r, 9)
		want := impl.Answer(q, l)
		meant := impl.Meant(q, l)
		wantAnswer(t, q, meant, want)
		wantMeant(t, q, meant, meant)
		var mixed []impl.Row
		for _, row := range meant {
			for _, other := range chanceRows(r, 3) {
				if !plainTrue(q.P, other.L) {
					mixed = append(mixed, other)
				}
			}
			mixed = append(mixed, row)
		}
		wantAnswer(t, q, mixed, want)
		wantMeant(t, q, mixed, meant)
		everyRow := q
		everyRow.P = everything()
		wantAnswer(t, everyRow, meant, want)
	}
}

// TestQueryWithinItself has a predicate without an end.
func TestQueryWithinItself(t *testing.T) {
	loop := timesPred(2, impl.Pred{Kind: prAnd})
	loop[1].L = loop
	for _, q := range queriesOf(loop[1]) {
		wantQueryOk(t, []int{tyInt, tyText}, q, false)
		impl.Answer(q, someRows())
		impl.Meant(q, someRows())
	}
}

// spareResult returns a result with the same content whose rows and values have spare capacity, and a check that nothing within these capacities has changed.
func spareResult(t *testing.T, r impl.Result) (impl.Result, func(what string)) {
	t.Helper()
	rows, check := spareRows(t, r.Rows...)
	r.Rows = rows
	return r, check
}

func scribbleRows(l []impl.Row) {
	for _, r := range l[:cap(l)] {
		scribble(r.L, textOf("gone"))
	}
	scribble(l, rowOf(77, textOf("gone")))
}

func TestQueryMemory(t *testing.T) {
	for _, rows := range append(sampleRows(), someRows(), unevenRows()) {
		for _, wanted := range append(queriesOf(cmpOf(0, cpElse, intOf(8))), queriesOf(andOf(everything(), notOf(nothing())))...) {
			l, checkRows := spareRows(t, rows...)
			p, checkPred := sparePred(t, wanted.P)
			out, checkOut := spare(t, 7, wanted.Out...)
			cols, checkCols := spare(t, tyInt, tyInt, tyText)
			q := impl.Query{Kind: wanted.Kind, P: p, Col: wanted.Col, Out: out}
			want, meant := plainAnswer(wanted, rows), plainMeant(wanted, rows)
			wantQueryOk(t, cols, q, true)
			first, second := impl.Answer(q, l), impl.Answer(q, l)
			firstRows, secondRows := impl.Meant(q, l), impl.Meant(q, l)
			scribbleRows(first.Rows)
			scribbleRows(firstRows)
			wantResultText(t, q, second, plainResultText(wanted, want))
			for _, check := range []func(string){checkRows, checkPred, checkOut, checkCols} {
				check("QueryOk, Answer, Meant and ResultText")
			}
			scribbleRows(l)
			scribble(out, 99)
			if !sameResultPlainly(second, want) || !sameRowsPlainly(secondRows, meant) {
				t.Fatalf("Answer and Meant of %s, their arguments and other results overwritten: %s and %v, want %s and %v", shownQuery(wanted), shownResult(second), secondRows, shownResult(want), meant)
			}
		}
	}
}

// TestRowsShareNoMemory overwrites one row of a result, which is no part of another one.
func TestRowsShareNoMemory(t *testing.T) {
	r := rowOf(1, intOf(3), textOf("b"))
	l := []impl.Row{r, r, r}
	q := rowsQuery(everything(), 0, 1)
	part := impl.Result{Rows: []impl.Row{r, r}}
	for _, got := range [][]impl.Row{impl.Answer(q, l).Rows, impl.Meant(q, l), impl.Joined(q, part, part).Rows} {
		for i := range got {
			whole := got[i].L[:cap(got[i].L)]
			scribble(whole, textOf("gone"))
			for k := i + 1; k < len(got); k++ {
				wantSameRow(t, got[k], r, true)
			}
		}
	}
	wantSameRow(t, r, rowOf(1, intOf(3), textOf("b")), true)
}

func TestJoinedMemory(t *testing.T) {
	full := impl.Result{Rows: someRows(), N: 4, Has: true, V: textOf("b")}
	for _, x := range []impl.Result{{}, full, {Rows: unevenRows()}} {
		for _, y := range []impl.Result{{}, full, {Rows: unevenRows(), Has: true}} {
			for _, kind := range append(queryKinds(), 0, 6) {
				a, checkA := spareResult(t, x)
				b, checkB := spareResult(t, y)
				q := impl.Query{Kind: kind, P: everything(), Out: []int{0}}
				first, second, want := impl.Joined(q, a, b), impl.Joined(q, a, b), impl.Joined(q, x, y)
				wantSameResult(t, a, b, sameResultPlainly(x, y))
				wantResultText(t, q, a, plainResultText(q, x))
				scribbleRows(first.Rows)
				checkA("Joined, SameResult and ResultText")
				checkB("Joined and SameResult")
				scribbleRows(a.Rows)
				scribbleRows(b.Rows)
				if !sameResultPlainly(second, want) {
					t.Fatalf("Joined of kind %d, its arguments and another result overwritten: %s, want %s", kind, shownResult(second), shownResult(want))
				}
			}
		}
	}
}

func TestQueriesStayTheSame(t *testing.T) {
	cols := []int{tyInt, tyText}
	q := rowsQuery(cmpOf(0, cpSame, intOf(-5)), 1)
	for range 3 {
		wantQueryOk(t, cols, q, true)
		wantQueryOk(t, cols[:1], q, false)
		wantAnswer(t, q, someRows(), impl.Result{Rows: []impl.Row{rowOf(2, textOf("a")), rowOf(9, textOf("c"))}})
		wantAnswer(t, q, nil, impl.Result{})
		wantAnswer(t, colQuery(quSum, everything(), 0), someRows(), impl.Result{N: 4})
		wantAnswer(t, colQuery(quMost, everything(), 0), someRows(), impl.Result{Has: true, V: intOf(8)})
		wantAnswer(t, colQuery(quMost, everything(), 0), nil, impl.Result{})
		wantResultText(t, q, impl.Answer(q, someRows()), "#2 'a; #9 'c")
		wantJoined(t, q, impl.Answer(q, someRows()[:2]), impl.Result{}, impl.Result{Rows: []impl.Row{rowOf(2, textOf("a"))}})
		wantMeant(t, q, someRows(), []impl.Row{someRows()[1], someRows()[4]})
	}
}
