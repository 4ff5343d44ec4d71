package tests

import (
	"fmt"
	"math"
	"math/rand/v2"
	"regexp"
	"slices"
	"strconv"
	"strings"
	"testing"

	"loop.example/g00496/impl"
)

const (
	prAll     = 1
	prCmp     = 2
	prAnd     = 3
	prOr      = 4
	prNot     = 5
	mostDeep  = 4
	mostPreds = 8
)

var (
	plainCmpText  = regexp.MustCompile(`(?s)\Ac(0|[1-9][0-9]{0,3})(<=|>=|!=|<|>|=)(.*)\z`)
	plainListText = regexp.MustCompile(`(?s)\A(and|or|not)\((.*)\)\z`)
)

func cmpOf(col, op int, v impl.Val) impl.Pred {
	return impl.Pred{Kind: prCmp, Col: col, Op: op, V: v}
}

func listed(kind int, l ...impl.Pred) impl.Pred {
	return impl.Pred{Kind: kind, L: l}
}

func andOf(l ...impl.Pred) impl.Pred {
	return listed(prAnd, l...)
}

func orOf(l ...impl.Pred) impl.Pred {
	return listed(prOr, l...)
}

func notOf(l ...impl.Pred) impl.Pred {
	return listed(prNot, l...)
}

// nested returns p within so many negations.
func nested(k int, p impl.Pred) impl.Pred {
	for range k {
		p = notOf(p)
	}
	return p
}

func timesPred(k int, p impl.Pred) []impl.Pred {
	return slices.Repeat([]impl.Pred{p}, k)
}

// wrongPredKinds returns numbers that are no kind. Some would be one in fewer bits, or with another sign.
func wrongPredKinds() []int {
	out := []int{0, -1, 6, 7, 8, -6, 127, 255, 1 << 31, -1 << 31, 1 << 62, math.MaxInt, math.MaxInt - 1, math.MinInt, math.MinInt + 1}
	for kind := prAll; kind <= prNot; kind++ {
		out = append(out, -kind, ^kind, kind+1<<8, kind-1<<8, kind+1<<16, kind+1<<32, kind-1<<32, kind+math.MinInt)
	}
	return out
}

// plainFormOk looks up what one predicate must be, whatever its operands are, apart from the program.
func plainFormOk(cols []int, p impl.Pred) bool {
	operands, ok := map[int][2]int{prAll: {0, 0}, prCmp: {0, 0}, prAnd: {1, 4}, prOr: {1, 4}, prNot: {1, 1}}[p.Kind]
	if !ok || len(p.L) < operands[0] || len(p.L) > operands[1] {
		return false
	}
	if p.Kind != prCmp {
		return p.Col == 0 && p.Op == 0 && p.V.Ty == 0 && p.V.N == 0 && p.V.S == ""
	}
	if p.Col < 0 || p.Col >= len(cols) || p.Op < 1 || p.Op > 6 {
		return false
	}
	return fitsPlainly(cols[p.Col:p.Col+1], []impl.Val{p.V})
}

// plainPredOk goes through the levels of p from the top.
func plainPredOk(cols []int, p impl.Pred) bool {
	if !slices.ContainsFunc(goodCols(), func(good []int) bool { return slices.Equal(good, cols) }) {
		return false
	}
	count, level := 0, []impl.Pred{p}
	for deep := 1; len(level) > 0; deep++ {
		var next []impl.Pred
		for _, q := range level {
			count++
			if deep > 4 || count > 8 || !plainFormOk(cols, q) {
				return false
			}
			next = append(next, q.L...)
		}
		level = next
	}
	return true
}

func plainTrue(p impl.Pred, l []impl.Val) bool {
	isTrue := func(q impl.Pred) bool { return plainTrue(q, l) }
	isFalse := func(q impl.Pred) bool { return !plainTrue(q, l) }
	switch p.Kind {
	case prAll:
		return true
	case prCmp:
		return p.Col >= 0 && p.Col < len(l) && plainHolds(p.Op, l[p.Col], p.V)
	case prAnd:
		return !slices.ContainsFunc(p.L, isFalse)
	case prOr:
		return slices.ContainsFunc(p.L, isTrue)
	case prNot:
		return len(p.L) == 0 || !plainTrue(p.L[0], l)
	}
	return false
}

// plainCan is the document's MayHold, with plainCannot for its question about negations.
func plainCan(p impl.Pred, z []impl.Zone) bool {
	switch p.Kind {
	case prAll:
		return true
	case prCmp:
		return p.Col >= 0 && p.Col < len(z) && plainMayHold(p.Op, z[p.Col], p.V)
	case prAnd:
		return !slices.ContainsFunc(p.L, func(q impl.Pred) bool { return !plainCan(q, z) })
	case prOr:
		return slices.ContainsFunc(p.L, func(q impl.Pred) bool { return plainCan(q, z) })
	case prNot:
		return len(p.L) == 0 || plainCannot(p.L[0], z)
	}
	return false
}

// plainCannot tells whether p can be false.
func plainCannot(p impl.Pred, z []impl.Zone) bool {
	switch p.Kind {
	case prAll:
		return false
	case prCmp:
		opposite := map[int]int{cpLess: cpLeast, cpMost: cpMore, cpSame: cpElse, cpElse: cpSame, cpLeast: cpLess, cpMore: cpMost}
		return p.Col < 0 || p.Col >= len(z) || plainMayHold(opposite[p.Op], z[p.Col], p.V)
	case prAnd:
		return slices.ContainsFunc(p.L, func(q impl.Pred) bool { return plainCannot(q, z) })
	case prOr:
		return !slices.ContainsFunc(p.L, func(q impl.Pred) bool { return !plainCannot(q, z) })
	case prNot:
		return len(p.L) == 0 || plainCan(p.L[0], z)
	}
	return true
}

func plainPredText(p impl.Pred) string {
	switch p.Kind {
	case prAll:
		return "all"
	case prCmp:
		op := map[int]string{1: "<", 2: "<=", 3: "=", 4: "!=", 5: ">=", 6: ">"}[p.Op]
		v := ""
		if fitsPlainly([]int{p.V.Ty}, []impl.Val{p.V}) {
			v = map[int]string{tyInt: strconv.Itoa(p.V.N), tyText: "'" + p.V.S}[p.V.Ty]
		}
		return "c" + strconv.Itoa(p.Col) + op + v
	}
	word, ok := map[int]string{prAnd: "and", prOr: "or", prNot: "not"}[p.Kind]
	if !ok {
		return ""
	}
	var texts []string
	for _, q := range p.L {
		texts = append(texts, plainPredText(q))
	}
	return word + "(" + strings.Join(texts, ",") + ")"
}

// plainForm parses a predicate from the outside to the inside, whether or not it is valid for some columns.
func plainForm(s string) (impl.Pred, bool) {
	if s == "all" {
		return impl.Pred{Kind: prAll}, true
	}
	if m := plainCmpText.FindStringSubmatch(s); m != nil {
		col, _ := strconv.Atoi(m[1])
		v, ok := plainVal(m[3])
		return cmpOf(col, slices.Index([]string{"", "<", "<=", "=", "!=", ">=", ">"}, m[2]), v), ok
	}
	m := plainListText.FindStringSubmatch(s)
	if m == nil {
		return impl.Pred{}, false
	}
	p := impl.Pred{Kind: map[string]int{"and": prAnd, "or": prOr, "not": prNot}[m[1]]}
	for _, part := range outerParts(m[2]) {
		q, ok := plainForm(part)
		if !ok {
			return impl.Pred{}, false
		}
		p.L = append(p.L, q)
	}
	return p, true
}

// outerParts splits a text at the commas that are not within brackets.
func outerParts(s string) []string {
	var out []string
	start, open := 0, 0
	for i := range len(s) {
		switch s[i] {
		case '(':
			open++
		case ')':
			open--
		case ',':
			if open == 0 {
				out = append(out, s[start:i])
				start = i + 1
			}
		}
	}
	return append(out, s[start:])
}

func plainPred(cols []int, s string) (impl.Pred, bool) {
	p, ok := plainForm(s)
	if !ok || !plainPredOk(cols, p) {
		return impl.Pred{}, false
	}
	return p, true
}

func samePred(a, b impl.Pred) bool {
	return a.Kind == b.Kind && a.Col == b.Col && a.Op == b.Op && a.V == b.V && slices.EqualFunc(a.L, b.L, samePred)
}

func copyPred(p impl.Pred) impl.Pred {
	var l []impl.Pred
	for _, q := range p.L {
		l = append(l, copyPred(q))
	}
	p.L = l
	return p
}

// everyPlace calls change with each predicate of p in turn, in a copy of p, and passes on the copy.
func everyPlace(p impl.Pred, change func(q *impl.Pred) []impl.Pred) []impl.Pred {
	out := slices.Clone(change(&p))
	for i, q := range p.L {
		for _, changed := range everyPlace(q, change) {
			whole := copyPred(p)
			whole.L[i] = changed
			out = append(out, whole)
		}
	}
	return out
}

// changedPreds returns predicates that differ from p in one field of one of its predicates.
func changedPreds(p impl.Pred) []impl.Pred {
	return everyPlace(p, func(q *impl.Pred) []impl.Pred {
		var out []impl.Pred
		change := func(alter func(r *impl.Pred)) {
			r := copyPred(*q)
			alter(&r)
			out = append(out, r)
		}
		for _, kind := range []int{0, 1, 2, 3, 4, 5, 6, -1, math.MaxInt, math.MinInt, q.Kind + 1<<8, q.Kind + 1<<32} {
			change(func(r *impl.Pred) { r.Kind = kind })
		}
		for _, n := range []int{-1, 0, 1, 2, 3, 4, 6, 7, math.MaxInt, math.MinInt, 1 << 8, 1 << 32, 1<<32 + 1} {
			change(func(r *impl.Pred) { r.Col = n })
			change(func(r *impl.Pred) { r.Op = n })
			change(func(r *impl.Pred) { r.V.N = n })
			change(func(r *impl.Pred) { r.V.Ty = n })
		}
		for _, v := range []impl.Val{{}, intOf(3), textOf("a"), intOf(mostNum), intOf(mostNum + 1), textOf("seven77"), textOf("A"), {Ty: tyInt, S: "a"}, {Ty: tyText, N: 1}, {S: "a"}} {
			change(func(r *impl.Pred) { r.V = v })
		}
		for k := range 6 {
			change(func(r *impl.Pred) { r.L = timesPred(k, impl.Pred{Kind: prAll}) })
			change(func(r *impl.Pred) { r.L = timesPred(k, cmpOf(0, cpLess, intOf(3))) })
		}
		change(func(r *impl.Pred) { r.L = []impl.Pred{{}} })
		return out
	})
}

// goodPreds returns predicates that are valid for an integer and a text.
func goodPreds() []impl.Pred {
	all, low, red := impl.Pred{Kind: prAll}, cmpOf(0, cpLess, intOf(5)), cmpOf(1, cpSame, textOf("red"))
	return []impl.Pred{
		all, low, red, cmpOf(0, cpMost, intOf(-mostNum)), cmpOf(1, cpMore, textOf("")), notOf(all), notOf(low), andOf(all), orOf(red),
		andOf(low, red), orOf(red, low, all), andOf(low, low, low, low), orOf(timesPred(4, red)...), nested(2, low), nested(3, red), nested(3, all),
		andOf(low, notOf(red)), notOf(orOf(low, andOf(red))), andOf(orOf(notOf(low))), orOf(andOf(orOf(low, red), all), notOf(red)),
		andOf(orOf(low, red), orOf(low, red), all), notOf(andOf(nested(1, low), nested(1, red), low, red)), andOf(andOf(all, all, all), andOf(all, all)),
		orOf(andOf(low, notOf(red)), nested(2, low)),
	}
}

// fewPreds returns all predicates of at most so many levels with at most two operands each, valid and invalid ones.
func fewPreds(deep int) []impl.Pred {
	leaves := []impl.Pred{{Kind: prAll}, cmpOf(0, cpMost, intOf(2)), cmpOf(1, cpElse, textOf("b")), cmpOf(2, cpMore, intOf(0)), cmpOf(0, 0, intOf(2)), {Kind: 6}}
	out := leaves
	for range deep - 1 {
		level := slices.Clone(leaves)
		for _, l := range listsOf(2, out...) {
			level = append(level, andOf(l...), orOf(l...), notOf(l...))
		}
		out = level
	}
	return out
}

// chancePred makes a predicate of at most so many levels that is often invalid.
func chancePred(r *rand.Rand, deep int) impl.Pred {
	p := impl.Pred{Kind: r.IntN(5) + 1}
	switch {
	case r.IntN(20) == 0:
		p.Kind = []int{0, -1, 6, 1 << 32}[r.IntN(4)]
	case p.Kind <= prCmp || deep == 1:
		p = chanceCmp(r)
	}
	if p.Kind == prCmp || deep == 1 {
		return p
	}
	for range r.IntN(4) {
		p.L = append(p.L, chancePred(r, deep-1))
	}
	return p
}

func chanceCmp(r *rand.Rand) impl.Pred {
	p := cmpOf(r.IntN(2), r.IntN(6)+1, intOf(r.IntN(5)))
	if p.Col == 1 {
		p.V = textOf(string(rune('a' + r.IntN(4))))
	}
	switch r.IntN(24) {
	case 0:
		p.Col = r.IntN(5) - 1
	case 1:
		p.Op = r.IntN(9) - 1
	case 2:
		p.V = []impl.Val{{}, intOf(2), textOf("b"), textOf("B")}[r.IntN(4)]
	case 3:
		return impl.Pred{Kind: prAll}
	}
	return p
}

// chanceGood makes a predicate that is valid for an integer and a text.
func chanceGood(r *rand.Rand) impl.Pred {
	for {
		if p := chancePred(r, 1+r.IntN(mostDeep)); plainPredOk([]int{tyInt, tyText}, p) {
			return p
		}
	}
}

func chanceRows(r *rand.Rand, most int) []impl.Row {
	var out []impl.Row
	for i := range 1 + r.IntN(most) {
		out = append(out, rowOf(i, intOf(r.IntN(6)-1), textOf(string(rune('a'+r.IntN(5))))))
	}
	return out
}

func fixedChance() *rand.Rand {
	return rand.New(rand.NewPCG(11, 4))
}

// zonesPlainly takes the values of each column in turn.
func zonesPlainly(l []impl.Row) []impl.Zone {
	var out []impl.Zone
	if len(l) == 0 {
		return nil
	}
	for k := range len(l[0].L) {
		var values []impl.Val
		for _, r := range l {
			values = append(values, r.L[min(k, len(r.L)):min(k+1, len(r.L))]...)
		}
		out = append(out, plainZone(values))
	}
	return out
}

// wantPredOk ends the test at the first mistake, as the other checks here do: there are so many
// predicates that their messages would fill the disk.
func wantPredOk(t *testing.T, cols []int, p impl.Pred, want bool) {
	t.Helper()
	if got := impl.PredOk(cols, p); got != want {
		t.Fatalf("PredOk(%v, %s) = %v, want %v", cols[:min(len(cols), 5)], shown(p, 5), got, want)
	}
}

// shown leaves out the predicates that no message should show, which may have no end.
func shown(p impl.Pred, levels int) string {
	s := fmt.Sprint("{", p.Kind, " ", p.Col, " ", p.Op, " ", p.V, " [")
	for i, q := range p.L {
		if levels == 0 || i == 5 {
			return s + "...]}"
		}
		s += shown(q, levels-1)
	}
	return s + "]}"
}

func wantTrue(t *testing.T, p impl.Pred, l []impl.Val, want bool) {
	t.Helper()
	if got := impl.Holds(p, l); got != want {
		t.Fatalf("Holds(%s, %v) = %v, want %v", shown(p, 5), l, got, want)
	}
}

func wantCan(t *testing.T, p impl.Pred, z []impl.Zone, want bool) {
	t.Helper()
	if got := impl.MayHold(p, z); got != want {
		t.Fatalf("MayHold(%s, %v) = %v, want %v", shown(p, 5), z, got, want)
	}
}

func wantPredText(t *testing.T, p impl.Pred, want string) {
	t.Helper()
	if got := impl.PredText(p); got != want {
		t.Fatalf("PredText(%s) = %.300q, want %.300q", shown(p, 5), got, want)
	}
}

func wantPred(t *testing.T, cols []int, s string, want impl.Pred) {
	t.Helper()
	if p, ok := impl.ParsePred(cols, s); !samePred(p, want) || !ok {
		t.Fatalf("ParsePred(%v, %.200q) = %s, %v; want %s, true", cols, s, shown(p, 5), ok, shown(want, 5))
	}
}

func wantNoPred(t *testing.T, cols []int, s string) {
	t.Helper()
	if p, ok := impl.ParsePred(cols, s); !samePred(p, impl.Pred{}) || ok {
		t.Fatalf("ParsePred(%v, %.200q) = %s, %v; want the zero Pred, false", cols[:min(len(cols), 5)], s, shown(p, 5), ok)
	}
}

// wantPlainPred checks that s is parsed exactly if it is the text of a valid predicate.
func wantPlainPred(t *testing.T, cols []int, s string) {
	t.Helper()
	want, ok := plainPred(cols, s)
	if !ok {
		wantNoPred(t, cols, s)
		return
	}
	wantPred(t, cols, s, want)
}

func TestPredConstants(t *testing.T) {
	if impl.PrAll != prAll || impl.PrCmp != prCmp || impl.PrAnd != prAnd || impl.PrOr != prOr || impl.PrNot != prNot {
		t.Error(impl.PrAll, impl.PrCmp, impl.PrAnd, impl.PrOr, impl.PrNot)
	}
	if impl.MaxDeep != mostDeep || impl.MaxPreds != mostPreds {
		t.Error(impl.MaxDeep, impl.MaxPreds)
	}
}

func TestPredOkEachKind(t *testing.T) {
	cols := []int{tyInt, tyText}
	for _, p := range goodPreds() {
		wantPredOk(t, cols, p, true)
		if !plainPredOk(cols, p) {
			t.Fatalf("the test takes %v for invalid", p)
		}
	}
	for _, op := range allOps() {
		for _, v := range []impl.Val{intOf(0), intOf(-1), intOf(mostNum), intOf(-mostNum)} {
			wantPredOk(t, cols, cmpOf(0, op, v), true)
			wantPredOk(t, []int{tyInt}, cmpOf(0, op, v), true)
			wantPredOk(t, []int{tyText, tyText, tyInt}, cmpOf(2, op, v), true)
		}
		for _, s := range goodTexts() {
			wantPredOk(t, cols, cmpOf(1, op, textOf(s)), true)
			wantPredOk(t, []int{tyText}, cmpOf(0, op, textOf(s)), true)
		}
	}
}

// TestPredOkEmptyList has lists without elements that are not nil, which are no operands either.
func TestPredOkEmptyList(t *testing.T) {
	cols := []int{tyInt}
	for _, l := range [][]impl.Pred{nil, {}, timesPred(3, impl.Pred{Kind: prAll})[:0]} {
		wantPredOk(t, cols, impl.Pred{Kind: prAll, L: l}, true)
		wantPredOk(t, cols, impl.Pred{Kind: prCmp, Op: cpSame, V: intOf(4), L: l}, true)
		for _, kind := range []int{prAnd, prOr, prNot} {
			wantPredOk(t, cols, impl.Pred{Kind: kind, L: l}, false)
			wantPredOk(t, cols, notOf(impl.Pred{Kind: kind, L: l}), false)
		}
	}
}

func TestPredOkCols(t *testing.T) {
	for _, cols := range wrongCols() {
		for _, p := range goodPreds() {
			wantPredOk(t, cols, p, false)
		}
		wantPredOk(t, cols, cmpOf(len(cols)-1, cpLess, intOf(1)), false)
		wantPredOk(t, cols, cmpOf(len(cols)-1, cpLess, textOf("a")), false)
	}
	for _, cols := range goodCols() {
		for _, p := range goodPreds() {
			wantPredOk(t, cols, p, plainPredOk(cols, p))
		}
	}
}

func TestPredOkKinds(t *testing.T) {
	cols := []int{tyInt, tyText}
	for _, kind := range wrongPredKinds() {
		wantPredOk(t, cols, impl.Pred{Kind: kind}, false)
		wantPredOk(t, cols, impl.Pred{Kind: kind, L: []impl.Pred{}}, false)
		for _, p := range goodPreds() {
			other := copyPred(p)
			other.Kind = kind
			wantPredOk(t, cols, other, false)
			wantPredOk(t, cols, notOf(other), false)
			wantPredOk(t, cols, andOf(impl.Pred{Kind: prAll}, other), false)
			wantPredOk(t, cols, orOf(other, impl.Pred{Kind: prAll}), false)
		}
	}
}

func TestPredOkUnusedFields(t *testing.T) {
	cols := []int{tyInt, tyText}
	all := impl.Pred{Kind: prAll}
	for _, p := range []impl.Pred{all, notOf(all), andOf(all), orOf(all), andOf(timesPred(4, all)...), orOf(all, notOf(all))} {
		wantPredOk(t, cols, p, true)
		for _, n := range []int{1, -1, 2, 5, 1 << 8, 1 << 32, math.MaxInt, math.MinInt} {
			for _, wrong := range []impl.Pred{
				{Kind: p.Kind, Col: n, L: p.L}, {Kind: p.Kind, Op: n, L: p.L}, {Kind: p.Kind, V: impl.Val{Ty: n}, L: p.L},
				{Kind: p.Kind, V: impl.Val{N: n}, L: p.L}, {Kind: p.Kind, V: impl.Val{S: strconv.Itoa(n)}, L: p.L},
				{Kind: p.Kind, V: impl.Val{Ty: tyInt, N: n}, L: p.L}, {Kind: p.Kind, V: textOf("a"), L: p.L},
			} {
				wantPredOk(t, cols, wrong, false)
				wantPredOk(t, cols, notOf(wrong), false)
				wantPredOk(t, cols, andOf(all, wrong), false)
			}
		}
	}
	for k := 1; k <= 5; k++ {
		wantPredOk(t, cols, impl.Pred{Kind: prAll, L: timesPred(k, all)}, false)
		wantPredOk(t, cols, impl.Pred{Kind: prCmp, Op: cpLess, V: intOf(1), L: timesPred(k, all)}, false)
		wantPredOk(t, cols, notOf(impl.Pred{Kind: prAll, L: timesPred(k, all)}), false)
		wantPredOk(t, cols, orOf(impl.Pred{Kind: prCmp, Op: cpLess, V: intOf(1), L: timesPred(k, all)}), false)
	}
}

func TestPredOkComparison(t *testing.T) {
	for _, cols := range goodCols() {
		for k, ty := range cols {
			good := valOf(ty, k)
			wantPredOk(t, cols, cmpOf(k, cpLeast, good), true)
			wantPredOk(t, cols, cmpOf(k, cpLeast, valOf(3-ty, k)), false)
			for _, col := range []int{-1, len(cols), len(cols) + 1, -len(cols), k + 1<<8, k + 1<<32, k - 1<<32, math.MaxInt, math.MinInt} {
				wantPredOk(t, cols, cmpOf(col, cpLeast, good), false)
			}
			for _, op := range wrongOps() {
				wantPredOk(t, cols, cmpOf(k, op, good), false)
			}
			for _, v := range []impl.Val{{}, {Ty: 3}, {Ty: -1}, {Ty: ty + 1<<8}, {Ty: ty + 1<<32}, {Ty: ty, N: 1, S: "a"}, {Ty: ty, N: mostNum + 1}, {Ty: ty, N: -mostNum - 1}, {Ty: ty, S: "seven77"}, {Ty: ty, S: "A"}} {
				wantPredOk(t, cols, cmpOf(k, cpLeast, v), false)
				wantPredOk(t, cols, nested(3, cmpOf(k, cpLeast, v)), false)
			}
		}
	}
	for _, v := range wrongVals() {
		wantPredOk(t, []int{tyInt, tyText}, cmpOf(0, cpSame, v), false)
		wantPredOk(t, []int{tyInt, tyText}, cmpOf(1, cpSame, v), false)
	}
}

func TestPredOkOperands(t *testing.T) {
	cols := []int{tyInt, tyText}
	for _, q := range goodPreds()[:5] {
		for k := range 12 {
			wantPredOk(t, cols, andOf(timesPred(k, q)...), k >= 1 && k <= 4)
			wantPredOk(t, cols, orOf(timesPred(k, q)...), k >= 1 && k <= 4)
			wantPredOk(t, cols, notOf(timesPred(k, q)...), k == 1)
			wantPredOk(t, cols, notOf(andOf(timesPred(k, q)...)), k >= 1 && k <= 4)
			wantPredOk(t, cols, andOf(notOf(timesPred(k, q)...)), k == 1)
		}
	}
	whole := timesPred(5, impl.Pred{Kind: prAll})
	wantPredOk(t, cols, andOf(whole[:4]...), true)
	wantPredOk(t, cols, notOf(whole[:1]...), true)
	wantPredOk(t, cols, orOf(whole[:0]...), false)
}

func TestPredOkDepth(t *testing.T) {
	cols := []int{tyInt, tyText}
	for _, leaf := range goodPreds()[:5] {
		for k := range 12 {
			wantPredOk(t, cols, nested(k, leaf), k < mostDeep)
			p, q := leaf, leaf
			for range k {
				p, q = andOf(p), orOf(q)
			}
			wantPredOk(t, cols, p, k < mostDeep)
			wantPredOk(t, cols, q, k < mostDeep)
			for i := range 4 {
				l := timesPred(4, leaf)
				l[i] = nested(k, leaf)
				wantPredOk(t, cols, orOf(l...), k < mostDeep-1)
			}
		}
	}
	for _, k := range []int{100, 1000, 300000} {
		wantPredOk(t, cols, nested(k, impl.Pred{Kind: prAll}), false)
	}
}

func TestPredOkCount(t *testing.T) {
	cols := []int{tyInt, tyText}
	all, low := impl.Pred{Kind: prAll}, cmpOf(0, cpLess, intOf(5))
	for _, c := range []struct {
		p    impl.Pred
		want bool
	}{
		{andOf(andOf(all, all, all), orOf(all, all)), true}, {andOf(andOf(all, all, all), orOf(all, all, all)), false}, {andOf(andOf(all, all, all), orOf(all, all), all), false},
		{notOf(andOf(all, all, andOf(low, low, low))), true}, {notOf(andOf(all, all, andOf(low, low, low, low))), false}, {notOf(andOf(all, all, all, andOf(low, low, low))), false},
		{orOf(notOf(low), notOf(low), notOf(low), low), true}, {orOf(notOf(low), notOf(low), notOf(low), notOf(low)), false},
		{orOf(nested(2, low), nested(2, low), low), true}, {orOf(nested(2, low), nested(2, low), nested(1, low)), false},
		{andOf(orOf(low, low, low, low), all, all), true}, {andOf(orOf(low, low, low, low), all, all, all), false}, {andOf(all, all, all, orOf(low, low, low, low)), false},
		{andOf(andOf(andOf(all, all, all, all), all)), true}, {andOf(andOf(andOf(all, all, all, all), all, all)), false}, {andOf(andOf(andOf(all, all, all, all), all), all), false},
		{andOf(timesPred(4, andOf(timesPred(4, all)...))...), false}, {andOf(timesPred(4, andOf(timesPred(4, andOf(timesPred(4, all)...))...))...), false},
	} {
		wantPredOk(t, cols, c.p, c.want)
		if plainPredOk(cols, c.p) != c.want {
			t.Fatalf("the test takes %v for the opposite", c.p)
		}
	}
}

// TestPredOkDeepMistake has one mistake, in the last level alone.
func TestPredOkDeepMistake(t *testing.T) {
	cols := []int{tyInt, tyText}
	good := cmpOf(1, cpMost, textOf("ab"))
	for _, wrong := range []impl.Pred{{}, {Kind: 6}, {Kind: prAll, Col: 1}, {Kind: prAll, V: intOf(0)}, cmpOf(2, cpMost, textOf("a")), cmpOf(1, 7, textOf("a")), cmpOf(1, cpMost, intOf(1)), cmpOf(1, cpMost, textOf("A")), andOf(), notOf()} {
		for i := range 4 {
			l := timesPred(4, good)
			wantPredOk(t, cols, notOf(orOf(andOf(l...))), true)
			l[i] = wrong
			wantPredOk(t, cols, andOf(l...), false)
			wantPredOk(t, cols, notOf(orOf(l...)), false)
			wantPredOk(t, cols, notOf(orOf(andOf(l...))), false)
		}
	}
}

func TestPredOkChanged(t *testing.T) {
	valid, invalid := 0, 0
	for _, p := range goodPreds() {
		for _, changed := range changedPreds(p) {
			for _, cols := range [][]int{{tyInt, tyText}, {tyInt}, {tyText, tyInt, tyInt}, {}} {
				want := plainPredOk(cols, changed)
				wantPredOk(t, cols, changed, want)
				if want {
					valid++
				} else {
					invalid++
				}
			}
		}
	}
	if valid < 1000 || invalid < 1000 {
		t.Errorf("%d valid and %d invalid predicates", valid, invalid)
	}
}

func TestPredOkWide(t *testing.T) {
	cols := []int{tyInt}
	all := impl.Pred{Kind: prAll}
	wide := timesPred(1000000, all)
	wantPredOk(t, cols, andOf(wide...), false)
	wantPredOk(t, cols, notOf(orOf(wide...)), false)
	wantPredOk(t, cols, impl.Pred{Kind: prAll, L: wide}, false)
	// Every level refers to the one below four times, so that nobody can visit all of them.
	shared := all
	for range 60 {
		shared = andOf(timesPred(4, shared)...)
	}
	wantPredOk(t, cols, shared, false)
	wantPredOk(t, cols, notOf(shared), false)
}

func TestHoldsEmptyLists(t *testing.T) {
	for _, l := range [][]impl.Val{nil, {}, {intOf(1)}, {textOf("a"), intOf(2), {}}} {
		for _, operands := range [][]impl.Pred{nil, {}} {
			and, or, not := andOf(operands...), orOf(operands...), notOf(operands...)
			for k := range 7 {
				wantTrue(t, nested(k, and), l, k%2 == 0)
				wantTrue(t, nested(k, or), l, k%2 == 1)
				wantTrue(t, nested(k, not), l, k%2 == 0)
				wantTrue(t, nested(k, impl.Pred{Kind: prAll, L: operands}), l, k%2 == 0)
				wantTrue(t, nested(k, impl.Pred{Kind: 6, L: operands}), l, k%2 == 1)
			}
			wantTrue(t, andOf(and, not), l, true)
			wantTrue(t, andOf(and, or), l, false)
			wantTrue(t, orOf(or, or), l, false)
			wantTrue(t, orOf(or, not), l, true)
		}
	}
}

// TestHoldsFirstOperand has negations of several operands, of which the first one counts.
func TestHoldsFirstOperand(t *testing.T) {
	all, none := impl.Pred{Kind: prAll}, orOf()
	for _, l := range listsOf(4, all, none)[1:] {
		wantTrue(t, notOf(l...), nil, l[0].Kind != prAll)
		wantTrue(t, notOf(notOf(l...), all), nil, l[0].Kind == prAll)
		wantTrue(t, notOf(notOf(l...), none), nil, l[0].Kind == prAll)
		wantTrue(t, andOf(l...), nil, !slices.ContainsFunc(l, func(q impl.Pred) bool { return q.Kind != prAll }))
		wantTrue(t, orOf(l...), nil, slices.ContainsFunc(l, func(q impl.Pred) bool { return q.Kind == prAll }))
	}
	whole := []impl.Pred{none, all, none}
	wantTrue(t, andOf(whole[1:2]...), nil, true)
	wantTrue(t, orOf(whole[:1]...), nil, false)
	wantTrue(t, notOf(whole[:1]...), nil, true)
	wantTrue(t, notOf(whole[:0]...), nil, true)
}

func TestHoldsComparison(t *testing.T) {
	l := []impl.Val{intOf(5), textOf("red"), intOf(-3)}
	for _, op := range append(allOps(), wrongOps()...) {
		for _, v := range []impl.Val{intOf(5), intOf(4), intOf(6), textOf("red"), textOf("re"), textOf("ree"), intOf(-3), {}, {Ty: 3}, {Ty: tyInt, N: 5, S: "a"}} {
			for k, own := range l {
				wantTrue(t, cmpOf(k, op, v), l, plainHolds(op, own, v))
				wantTrue(t, notOf(cmpOf(k, op, v)), l, !plainHolds(op, own, v))
				wantTrue(t, nested(2, cmpOf(k, op, v)), l, plainHolds(op, own, v))
			}
		}
	}
	wantTrue(t, cmpOf(0, cpLess, intOf(6)), l, true)
	wantTrue(t, cmpOf(0, cpLess, intOf(5)), l, false)
	wantTrue(t, cmpOf(2, cpSame, intOf(-3)), l, true)
	wantTrue(t, cmpOf(1, cpMore, textOf("re")), l, true)
	wantTrue(t, cmpOf(1, cpMore, intOf(mostNum)), l, true)
	wantTrue(t, impl.Pred{Kind: prCmp, Col: 0, Op: cpLess, V: intOf(6), L: timesPred(2, orOf())}, l, true)
	wantTrue(t, impl.Pred{Kind: prAll, Col: -1, Op: 9, V: textOf("A"), L: timesPred(2, orOf())}, l, true)
	wantTrue(t, impl.Pred{Kind: prAnd, Col: -1, Op: 9, V: textOf("A")}, l, true)
	wantTrue(t, impl.Pred{Kind: prOr, Col: 0, Op: cpLess, V: intOf(6)}, l, false)
	wantTrue(t, impl.Pred{Kind: prNot, Col: 0, Op: cpLess, V: intOf(6), L: timesPred(1, impl.Pred{Kind: prAll})}, l, false)
}

func TestHoldsMissingColumn(t *testing.T) {
	whole := []impl.Val{intOf(1), textOf("a"), intOf(2), intOf(1)}
	for k := range len(whole) {
		l := whole[:k]
		for _, col := range []int{k, k + 1, 3, 4, -1, -2, 1 << 32, -1 << 32, math.MaxInt, math.MinInt, math.MinInt + 1} {
			if col >= 0 && col < k {
				continue
			}
			for _, op := range append(allOps(), 0, 7) {
				for _, v := range []impl.Val{intOf(1), textOf("a"), {}} {
					p := cmpOf(col, op, v)
					wantTrue(t, p, l, false)
					wantTrue(t, notOf(p), l, true)
					wantTrue(t, nested(2, p), l, false)
					wantTrue(t, andOf(p, impl.Pred{Kind: prAll}), l, false)
					wantTrue(t, orOf(p, p), l, false)
					wantTrue(t, notOf(orOf(p, p)), l, true)
				}
			}
		}
	}
}

func TestHoldsOtherKinds(t *testing.T) {
	all := impl.Pred{Kind: prAll}
	l := []impl.Val{intOf(5), textOf("red")}
	for _, kind := range wrongPredKinds() {
		for _, p := range []impl.Pred{{Kind: kind}, {Kind: kind, Op: cpSame, V: intOf(5)}, {Kind: kind, L: []impl.Pred{all}}, {Kind: kind, L: []impl.Pred{all, all}}} {
			wantTrue(t, p, l, false)
			wantTrue(t, notOf(p), l, true)
			wantTrue(t, nested(2, p), l, false)
			wantTrue(t, nested(3, p), l, true)
			wantTrue(t, andOf(p), l, false)
			wantTrue(t, andOf(all, p), l, false)
			wantTrue(t, orOf(p), l, false)
			wantTrue(t, orOf(p, all), l, true)
			wantTrue(t, notOf(all, p), l, false)
			wantTrue(t, notOf(p, all), l, true)
		}
	}
}

func TestHoldsNested(t *testing.T) {
	low := cmpOf(0, cpLess, intOf(5))
	for _, k := range []int{0, 1, 2, 3, 4, 5, 6, 7, 8, 9, 64, 65, 1000, 1001, 100000, 100001} {
		wantTrue(t, nested(k, low), []impl.Val{intOf(4)}, k%2 == 0)
		wantTrue(t, nested(k, low), []impl.Val{intOf(5)}, k%2 == 1)
		wantTrue(t, andOf(nested(k, low), low), []impl.Val{intOf(4)}, k%2 == 0)
		p := low
		for range k {
			p = orOf(notOf(andOf(p)))
		}
		wantTrue(t, p, []impl.Val{intOf(4)}, k%2 == 0)
		wantTrue(t, p, nil, k%2 == 1)
	}
	red := cmpOf(1, cpSame, textOf("red"))
	for _, c := range []struct {
		p    impl.Pred
		want string
	}{
		{notOf(andOf(low, red)), "0111"}, {notOf(orOf(low, red)), "0001"}, {andOf(notOf(low), red), "0010"}, {orOf(notOf(low), red), "1011"},
		{notOf(andOf(notOf(low), red)), "1101"}, {notOf(orOf(notOf(low), notOf(red))), "1000"}, {nested(2, andOf(low, red)), "1000"}, {nested(3, orOf(low, red)), "0001"},
		{notOf(andOf(notOf(low), notOf(orOf(low, notOf(red))))), "1101"}, {orOf(nested(2, low), nested(3, red)), "1101"},
	} {
		for i, l := range [][]impl.Val{{intOf(4), textOf("red")}, {intOf(4), textOf("blue")}, {intOf(5), textOf("red")}, {intOf(5), textOf("blue")}} {
			wantTrue(t, c.p, l, c.want[i] == '1')
		}
	}
}

// TestHoldsAllShort has all short predicates, valid and invalid ones, on rows with too few values, with
// enough, with values of other types and with invalid ones.
func TestHoldsAllShort(t *testing.T) {
	rows := [][]impl.Val{nil, {intOf(2)}, {intOf(3)}, {intOf(2), textOf("b")}, {intOf(3), textOf("b"), intOf(1)}, {textOf("b"), intOf(2), textOf("")}, {{}, {Ty: tyText, N: 1, S: "b"}}}
	for i, p := range fewPreds(3) {
		if i < 1000 || i%3 == 0 {
			for _, l := range rows {
				want := plainTrue(p, l)
				wantTrue(t, p, l, want)
				wantTrue(t, notOf(p), l, !want)
			}
		}
	}
}

func TestHoldsByChance(t *testing.T) {
	r := fixedChance()
	for range 20000 {
		p := chancePred(r, 6)
		for _, row := range chanceRows(r, 4) {
			l := row.L[:min(2, r.IntN(8))]
			want := plainTrue(p, l)
			wantTrue(t, p, l, want)
			wantTrue(t, notOf(p), l, !want)
			wantTrue(t, nested(2, p), l, want)
			wantTrue(t, notOf(p, p), l, !want)
		}
	}
}

func TestZonesTable(t *testing.T) {
	want := func(l []impl.Row, zones ...impl.Zone) {
		t.Helper()
		if got := impl.Zones(l); !slices.Equal(got, zones) {
			t.Errorf("Zones(%v) = %v, want %v", l, got, zones)
		}
	}
	five, two, red, blue := intOf(5), intOf(2), textOf("red"), textOf("blue")
	want(nil)
	want([]impl.Row{})
	want([]impl.Row{{}})
	want([]impl.Row{{}, rowOf(1, five)})
	want([]impl.Row{{L: []impl.Val{}}, rowOf(1, five, red), {}})
	want([]impl.Row{rowOf(1, five)}, zoneFrom(five, five))
	want([]impl.Row{rowOf(1, five, red)}, zoneFrom(five, five), zoneFrom(red, red))
	want([]impl.Row{rowOf(1, five, red), rowOf(2, two, blue)}, zoneFrom(two, five), zoneFrom(blue, red))
	want([]impl.Row{rowOf(1, five, blue), rowOf(2, two, red)}, zoneFrom(two, five), zoneFrom(blue, red))
	want([]impl.Row{rowOf(1, five, red), rowOf(2, two)}, zoneFrom(two, five), zoneFrom(red, red))
	want([]impl.Row{rowOf(1, five), rowOf(2, two, red)}, zoneFrom(two, five))
	want([]impl.Row{rowOf(1, five), {}, rowOf(2, two, red, blue)}, zoneFrom(two, five))
	want([]impl.Row{rowOf(1, five, red, two, two), {}, rowOf(2, two)}, zoneFrom(two, five), zoneFrom(red, red), zoneFrom(two, two), zoneFrom(two, two))
	want([]impl.Row{rowOf(1, five, two), rowOf(1, red, blue)}, zoneFrom(five, red), zoneFrom(two, blue))
	want([]impl.Row{rowOf(-1, impl.Val{}), rowOf(-1, impl.Val{Ty: 3, S: "A"})}, zoneFrom(impl.Val{}, impl.Val{Ty: 3, S: "A"}))
	whole := []impl.Row{rowOf(3, two), rowOf(1, five, red), rowOf(2, five, red), rowOf(4, intOf(9), blue)}
	want(whole[1:3], zoneFrom(five, five), zoneFrom(red, red))
	want(whole[:0])
}

func TestZonesByChance(t *testing.T) {
	r := fixedChance()
	for range 2000 {
		var l []impl.Row
		for i := range r.IntN(20) {
			row := impl.Row{Id: i}
			for range r.IntN(6) {
				row.L = append(row.L, impl.Val{Ty: r.IntN(4), N: r.IntN(5) - 2, S: string(rune('a' + r.IntN(3)))})
			}
			l = append(l, row)
		}
		if got, want := impl.Zones(l), zonesPlainly(l); !slices.Equal(got, want) {
			t.Fatalf("Zones(%v) = %v, want %v", l, got, want)
		}
	}
	for _, k := range []int{12, mostVals, mostVals + 1, 1000} {
		var l []impl.Row
		for i := range k {
			l = append(l, rowOf(i, intOf(i*7%k), textOf(strconv.Itoa(i))))
		}
		if got := impl.Zones(l); !slices.Equal(got, []impl.Zone{zoneFrom(intOf(0), intOf(slices.Max(impl.NumsOf(impl.Column(l, 0))))), plainZone(impl.Column(l, 1))}) {
			t.Errorf("the zones of %d rows are %v", k, got)
		}
	}
}

func TestMayHoldKinds(t *testing.T) {
	two, five, red := intOf(2), intOf(5), textOf("red")
	z := []impl.Zone{zoneFrom(two, five), zoneFrom(red, red)}
	all, other := impl.Pred{Kind: prAll}, impl.Pred{Kind: 6}
	// The four answers are those for p, and for p within one, two and three negations.
	for _, c := range []struct {
		p    impl.Pred
		want string
	}{
		{all, "1010"}, {other, "0101"}, {impl.Pred{}, "0101"}, {andOf(), "1010"}, {orOf(), "0101"}, {notOf(), "1111"}, {notOf(notOf()), "1111"},
		{cmpOf(0, cpLess, two), "0101"}, {cmpOf(0, cpLess, intOf(3)), "1111"}, {cmpOf(0, cpLess, intOf(6)), "1010"}, {cmpOf(0, cpMost, intOf(1)), "0101"}, {cmpOf(0, cpMost, five), "1010"},
		{cmpOf(0, cpSame, intOf(4)), "1111"}, {cmpOf(0, cpSame, intOf(6)), "0101"}, {cmpOf(0, cpElse, intOf(4)), "1111"}, {cmpOf(0, cpElse, intOf(6)), "1010"},
		{cmpOf(0, cpLeast, two), "1010"}, {cmpOf(0, cpLeast, intOf(6)), "0101"}, {cmpOf(0, cpMore, five), "0101"}, {cmpOf(0, cpMore, intOf(1)), "1010"},
		{cmpOf(1, cpSame, red), "1010"}, {cmpOf(1, cpElse, red), "0101"}, {cmpOf(1, cpMost, red), "1010"}, {cmpOf(1, cpMore, red), "0101"}, {cmpOf(1, cpSame, textOf("blue")), "0101"},
		{cmpOf(2, cpLess, two), "0101"}, {cmpOf(-1, cpLess, two), "0101"}, {cmpOf(0, 0, two), "0000"}, {cmpOf(0, 7, two), "0000"}, {cmpOf(2, 0, two), "0101"},
		{andOf(all, other), "0101"}, {andOf(all, all), "1010"}, {andOf(cmpOf(0, cpLess, intOf(3)), all), "1111"}, {andOf(cmpOf(0, cpLess, intOf(3)), other), "0101"}, {andOf(cmpOf(0, 0, two), all), "0000"},
		{orOf(all, other), "1010"}, {orOf(other, other), "0101"}, {orOf(cmpOf(0, cpLess, intOf(3)), other), "1111"}, {orOf(cmpOf(0, cpLess, intOf(3)), all), "1010"}, {orOf(cmpOf(0, 7, two), other), "0000"},
		{andOf(orOf(), notOf()), "0101"}, {orOf(orOf(), notOf()), "1111"}, {andOf(andOf(), notOf()), "1111"},
		{notOf(all, other), "0101"}, {notOf(other, all), "1010"}, {notOf(cmpOf(0, cpLess, intOf(3)), all), "1111"},
	} {
		for k := range 12 {
			wantCan(t, nested(k, c.p), z, c.want[min(k, 2+k%2)] == '1')
			if plainCan(nested(k, c.p), z) != (c.want[min(k, 2+k%2)] == '1') {
				t.Fatalf("the test takes %v within %d negations for the opposite", c.p, k)
			}
		}
	}
}

func TestMayHoldNoZones(t *testing.T) {
	p := cmpOf(0, cpSame, intOf(5))
	for _, z := range [][]impl.Zone{nil, {}, []impl.Zone{zoneFrom(intOf(5), intOf(5))}[:0]} {
		wantCan(t, impl.Pred{Kind: prAll}, z, true)
		wantCan(t, notOf(impl.Pred{Kind: prAll}), z, false)
		wantCan(t, p, z, false)
		for k := 1; k < 8; k++ {
			wantCan(t, nested(k, p), z, k%2 == 1)
			wantCan(t, nested(k, andOf(p, p)), z, k%2 == 1)
			wantCan(t, nested(k, orOf(p, p)), z, k%2 == 1)
		}
	}
	z := []impl.Zone{zoneFrom(intOf(5), intOf(5))}
	for _, col := range []int{1, 2, -1, 1 << 32, -1 << 32, math.MaxInt, math.MinInt} {
		for _, op := range append(allOps(), wrongOps()...) {
			wantCan(t, cmpOf(col, op, intOf(5)), z, false)
			wantCan(t, notOf(cmpOf(col, op, intOf(5))), z, true)
			wantCan(t, nested(2, cmpOf(col, op, intOf(5))), z, false)
		}
	}
}

func TestMayHoldComparison(t *testing.T) {
	zones := []impl.Zone{zoneFrom(intOf(2), intOf(6)), zoneFrom(intOf(5), intOf(5)), zoneFrom(textOf("a"), textOf("c")), zoneFrom(intOf(6), intOf(2)), {}, zoneFrom(intOf(4), textOf("k"))}
	for i, z := range zones {
		for _, v := range []impl.Val{intOf(1), intOf(2), intOf(5), intOf(6), intOf(7), textOf(""), textOf("a"), textOf("b"), textOf("c"), textOf("d"), {}, {Ty: 3}} {
			for _, op := range append(allOps(), wrongOps()...) {
				p := cmpOf(i, op, v)
				wantCan(t, p, zones, plainMayHold(op, z, v))
				wantCan(t, notOf(p), zones, plainCannot(p, zones))
				wantCan(t, nested(2, p), zones, plainMayHold(op, z, v))
				wantCan(t, nested(3, p), zones, plainCannot(p, zones))
			}
		}
	}
}

func TestMayHoldOtherKinds(t *testing.T) {
	z := []impl.Zone{zoneFrom(intOf(2), intOf(6))}
	all := impl.Pred{Kind: prAll}
	for _, kind := range wrongPredKinds() {
		for _, p := range []impl.Pred{{Kind: kind}, {Kind: kind, Op: cpSame, V: intOf(5)}, {Kind: kind, L: []impl.Pred{all}}, {Kind: kind, L: []impl.Pred{orOf()}}} {
			for k := range 6 {
				wantCan(t, nested(k, p), z, k%2 == 1)
				wantCan(t, nested(k, andOf(all, p)), z, k%2 == 1)
				wantCan(t, nested(k, orOf(p, p)), z, k%2 == 1)
				wantCan(t, nested(k, orOf(p, all)), z, k%2 == 0)
			}
		}
	}
}

func TestMayHoldNested(t *testing.T) {
	z := []impl.Zone{zoneFrom(intOf(2), intOf(6))}
	for _, k := range []int{0, 1, 2, 3, 4, 5, 6, 7, 64, 65, 1000, 1001, 100000, 100001} {
		wantCan(t, nested(k, cmpOf(0, cpLess, intOf(7))), z, k%2 == 0)
		wantCan(t, nested(k, cmpOf(0, cpMore, intOf(6))), z, k%2 == 1)
		wantCan(t, nested(k, cmpOf(0, cpSame, intOf(3))), z, true)
		p := cmpOf(0, cpLess, intOf(7))
		for range k {
			p = orOf(notOf(andOf(p)))
		}
		wantCan(t, p, z, k%2 == 0)
	}
}

func TestMayHoldAllShort(t *testing.T) {
	zones := [][]impl.Zone{nil, {zoneFrom(intOf(1), intOf(2))}, {zoneFrom(intOf(2), intOf(3)), zoneFrom(textOf("b"), textOf("b"))}, {zoneFrom(intOf(3), intOf(4)), zoneFrom(textOf("a"), textOf("b")), zoneFrom(intOf(0), intOf(0))}}
	for i, p := range fewPreds(3) {
		if i < 1000 || i%3 == 1 {
			for _, z := range zones {
				wantCan(t, p, z, plainCan(p, z))
				wantCan(t, notOf(p), z, plainCannot(p, z))
				wantCan(t, nested(2, p), z, plainCan(p, z))
			}
		}
	}
}

func TestMayHoldByChance(t *testing.T) {
	r := fixedChance()
	for range 20000 {
		p := chancePred(r, 6)
		z := zonesPlainly(chanceRows(r, 3))
		wantCan(t, p, z, plainCan(p, z))
		wantCan(t, notOf(p), z, plainCannot(p, z))
		wantCan(t, nested(2, p), z, plainCan(p, z))
		wantCan(t, nested(3, p), z, plainCannot(p, z))
	}
}

// TestHoldsSoMayHoldByZones is P11: a predicate that holds for a row may hold by the zones of the rows.
func TestHoldsSoMayHoldByZones(t *testing.T) {
	r := fixedChance()
	not := 0
	for range 30000 {
		p, l := chanceGood(r), chanceRows(r, 4)
		for _, q := range []impl.Pred{p, notOf(p), nested(2, p), nested(3, p)} {
			may := impl.MayHold(q, impl.Zones(l))
			if !may {
				not++
			}
			for _, row := range l {
				if impl.Holds(q, row.L) && !may {
					t.Fatalf("%s holds for %v, but may not hold by the zones of %v", plainPredText(q), row, l)
				}
			}
		}
	}
	if not < 10000 {
		t.Errorf("only %d predicates may not hold", not)
	}
}

// TestMayHoldOneRow has zones of single values, by which a predicate may hold exactly if it holds.
func TestMayHoldOneRow(t *testing.T) {
	r := fixedChance()
	for range 10000 {
		p, l := chanceGood(r), chanceRows(r, 1)
		for k := range 4 {
			wantCan(t, nested(k, p), impl.Zones(l), impl.Holds(nested(k, p), l[0].L))
		}
	}
	for _, p := range goodPreds() {
		for _, n := range []int{-mostNum, 0, 4, 5, 6, mostNum} {
			for _, s := range []string{"", "a", "red", "redd", "zzzzzz"} {
				l := rowOf(3, intOf(n), textOf(s))
				wantCan(t, p, impl.Zones([]impl.Row{l, l}), impl.Holds(p, l.L))
			}
		}
	}
}

func TestPredTextTable(t *testing.T) {
	all, low, red := impl.Pred{Kind: prAll}, cmpOf(0, cpMost, intOf(5)), cmpOf(1, cpElse, textOf("red"))
	for _, c := range []struct {
		p    impl.Pred
		want string
	}{
		{all, "all"}, {low, "c0<=5"}, {red, "c1!='red"}, {cmpOf(0, cpLess, intOf(-4)), "c0<-4"}, {cmpOf(2, cpSame, intOf(0)), "c2=0"}, {cmpOf(1, cpLeast, textOf("")), "c1>='"}, {cmpOf(1, cpMore, textOf("007")), "c1>'007"},
		{cmpOf(0, cpSame, intOf(mostNum)), "c0=1000000000"}, {cmpOf(0, cpSame, intOf(-mostNum)), "c0=-1000000000"}, {cmpOf(12, cpSame, intOf(3)), "c12=3"},
		{notOf(all), "not(all)"}, {andOf(all), "and(all)"}, {orOf(low), "or(c0<=5)"}, {andOf(low, red), "and(c0<=5,c1!='red)"}, {orOf(red, low, all, red), "or(c1!='red,c0<=5,all,c1!='red)"},
		{nested(3, low), "not(not(not(c0<=5)))"}, {andOf(orOf(low, notOf(red)), all), "and(or(c0<=5,not(c1!='red)),all)"}, {andOf(all, orOf(all, low)), "and(all,or(all,c0<=5))"},
		{andOf(), "and()"}, {orOf(), "or()"}, {notOf(), "not()"}, {impl.Pred{Kind: prAnd, L: []impl.Pred{}}, "and()"}, {notOf(andOf(), orOf()), "not(and(),or())"},
		{notOf(all, low), "not(all,c0<=5)"}, {andOf(timesPred(5, all)...), "and(all,all,all,all,all)"}, {nested(6, all), "not(not(not(not(not(not(all))))))"},
		{impl.Pred{}, ""}, {impl.Pred{Kind: 6, L: timesPred(2, all)}, ""}, {impl.Pred{Kind: -1, Op: 3, V: intOf(1)}, ""}, {notOf(impl.Pred{}), "not()"}, {andOf(all, impl.Pred{Kind: 6}), "and(all,)"}, {orOf(impl.Pred{}, all), "or(,all)"}, {andOf(impl.Pred{}, impl.Pred{}, impl.Pred{}), "and(,,)"},
		{cmpOf(-1, cpLess, intOf(3)), "c-1<3"}, {cmpOf(math.MinInt, cpLess, intOf(3)), "c-9223372036854775808<3"}, {cmpOf(math.MaxInt, cpLess, intOf(3)), "c9223372036854775807<3"}, {cmpOf(mostNum+1, cpLess, intOf(3)), "c1000000001<3"},
		{cmpOf(0, 0, intOf(3)), "c03"}, {cmpOf(0, 7, intOf(3)), "c03"}, {cmpOf(0, -1, textOf("a")), "c0'a"}, {cmpOf(0, cpLess, impl.Val{}), "c0<"}, {cmpOf(0, 0, impl.Val{}), "c0"}, {impl.Pred{Kind: prCmp}, "c0"},
		{cmpOf(0, cpLess, intOf(mostNum+1)), "c0<"}, {cmpOf(0, cpLess, textOf("A")), "c0<"}, {cmpOf(0, cpLess, textOf("seven77")), "c0<"}, {cmpOf(0, cpLess, impl.Val{Ty: tyInt, N: 3, S: "a"}), "c0<"}, {cmpOf(0, cpLess, impl.Val{Ty: tyText, N: 3, S: "a"}), "c0<"},
		{impl.Pred{Kind: prAll, Col: 3, Op: 2, V: intOf(4), L: timesPred(2, low)}, "all"}, {impl.Pred{Kind: prCmp, Col: 3, Op: 2, V: intOf(4), L: timesPred(2, low)}, "c3<=4"}, {impl.Pred{Kind: prNot, Col: 3, Op: 2, V: intOf(4), L: timesPred(1, low)}, "not(c0<=5)"},
	} {
		wantPredText(t, c.p, c.want)
		wantPredText(t, notOf(c.p), "not("+c.want+")")
		wantPredText(t, andOf(c.p, c.p), "and("+c.want+","+c.want+")")
		if got := plainPredText(c.p); got != c.want {
			t.Errorf("the test's text of %v is %q, want %q", c.p, got, c.want)
		}
	}
}

func TestPredTextOtherKinds(t *testing.T) {
	for _, kind := range wrongPredKinds() {
		p := impl.Pred{Kind: kind, Col: 1, Op: 2, V: intOf(3), L: timesPred(2, impl.Pred{Kind: prAll})}
		wantPredText(t, p, "")
		wantPredText(t, impl.Pred{Kind: kind}, "")
		wantPredText(t, orOf(p, impl.Pred{Kind: prAll}, p), "or(,all,)")
	}
}

func TestPredTextComparison(t *testing.T) {
	for _, op := range append(allOps(), wrongOps()...) {
		for _, v := range append(fewVals(), goodVals()[:50]...) {
			for _, col := range []int{0, 1, 2, 9, 10, -7} {
				wantPredText(t, cmpOf(col, op, v), plainPredText(cmpOf(col, op, v)))
			}
		}
	}
}

func TestPredTextLong(t *testing.T) {
	for _, k := range []int{9, 1000, 300000} {
		wantPredText(t, nested(k, impl.Pred{Kind: prAll}), strings.Repeat("not(", k)+"all"+strings.Repeat(")", k))
		wantPredText(t, orOf(timesPred(k, impl.Pred{Kind: prAll})...), "or("+strings.Repeat("all,", k-1)+"all)")
	}
	whole := timesPred(3, impl.Pred{Kind: prAll})
	wantPredText(t, andOf(whole[:2]...), "and(all,all)")
}

func TestPredTextByChance(t *testing.T) {
	for i, p := range fewPreds(3) {
		if i < 1000 || i%3 == 2 {
			wantPredText(t, p, plainPredText(p))
		}
	}
	r := fixedChance()
	for range 20000 {
		p := chancePred(r, 6)
		wantPredText(t, p, plainPredText(p))
	}
}

func TestParsePredTable(t *testing.T) {
	cols := []int{tyInt, tyText, tyInt}
	for i, op := range []string{"<", "<=", "=", "!=", ">=", ">"} {
		for _, s := range []string{"0", "5", "-1", "1000000000", "-1000000000", "10"} {
			v, _ := plainVal(s)
			wantPred(t, cols, "c0"+op+s, cmpOf(0, i+1, v))
			wantPred(t, cols, "c2"+op+s, cmpOf(2, i+1, v))
			wantNoPred(t, cols, "c1"+op+s)
		}
		for _, s := range goodTexts() {
			wantPred(t, cols, "c1"+op+"'"+s, cmpOf(1, i+1, textOf(s)))
			wantNoPred(t, cols, "c0"+op+"'"+s)
		}
	}
	for _, p := range append(goodPreds(), andOf(cmpOf(0, cpLess, intOf(5)), notOf(cmpOf(1, cpSame, textOf("a"))))) {
		wantPred(t, cols, plainPredText(p), p)
	}
	wantPred(t, []int{tyInt, tyText}, "and(c0<5,not(c1='a))", andOf(cmpOf(0, cpLess, intOf(5)), notOf(cmpOf(1, cpSame, textOf("a")))))
	wantPred(t, cols, "all", impl.Pred{Kind: prAll})
}

func TestParsePredRejects(t *testing.T) {
	for _, s := range []string{
		"", " ", "a", "al", "alll", "all ", " all", "All", "ALL", "all,", "all)", "(all)", "all()", "all(all)", "all,all", "allc0<5", "all\n", "all\x00",
		"c", "c0", "c0<", "c<5", "c0 <5", "c0< 5", "c0<5 ", " c0<5", "C0<5", "0<5", "c0<5,", "c0<5)", "c0<5(", "c05", "c0'a", "c0<5<5", "c0==5", "c0=<5", "c0=>5", "c0<>5", "c0!5", "c0!", "c0!=", "c0<==5", "c0<<5", "c0>>5", "c0>==5", "c0!==5", "c0!<5", "c0<!5", "c0=!5",
		"c00<5", "c01<5", "c-0<5", "c+0<5", "c-1<5", "c3<5", "c4<5", "c10<5", "c256<5", "c4294967296<5", "c18446744073709551616<5", "c1000000001<5", "c0x0<5", "ca<5", "c0.0<5", "c١<5",
		"c0<05", "c0<005", "c0<+5", "c0<-0", "c0<-05", "c0<--5", "c0<1000000001", "c0<-1000000001", "c0<10000000000", "c0<5a", "c0<a", "c0<5.0", "c0<'5", "c1<5", "c1<", "c1<a", "c1<'A", "c1<'a'", "c1<''", "c1<'seven77", "c1<'a b", "c1<'-", "c1<\"a",
		"and", "and(", "and()", "and)", "and(all", "and(all,", "and(all,)", "and(,all)", "and(,)", "and(all,,all)", "and(all))", "and(all)all", "and(all) ", "and (all)", "and( all)", "and(all, all)", "and(all ,all)", "And(all)", "AND(all)", "and[all]", "and(all;all)", "and((all))", "andall", "and(all)(all)", "and(all)and(all)", "and(all),all", "xand(all)", "nand(all)",
		"or", "or(", "or()", "or(all", "or(all,)", "or(all))", "Or(all)", "or(all all)", "xor(all)", "nor(all)", "not", "not(", "not()", "not(all", "not(all,)", "not(,all)", "not(all,all)", "not(c0<5,c0<5,c0<5)", "not(all))", "not all", "!all", "not(not)", "Not(all)", "not(and())", "and(not())", "or(and(),all)", "or(all,or())",
		"and(all,all,all,all,all)", "or(all,all,all,all,all)", "not(or(all,all,all,all,all))", "and(c0<5,c0<5,c0<5,c0<5,c0<5)", "and(all,all,all,all,)", "and(all,all,all,all,x)",
		"not(not(not(not(all))))", "and(and(and(and(all))))", "or(all,or(or(or(c0<5))))", "not(not(not(not(not(all)))))", "and(all,not(and(or(all))))",
		"and(and(all,all,all),and(all,all,all))", "or(not(all),not(all),not(all),not(all))", "and(and(and(all,all,all,all),all),all)", "not(and(all,all,all,and(all,all,all)))",
		"c0<5,c1='a", "and(c0<5.c1='a)", "and(c0<5;c1='a)", "and(c0<5c1='a)", "and c0<5 c1='a", "(c0<5)", "c0<c2", "5>c0", "true", "none", "any", "c1='a,", "c1='a)",
	} {
		wantNoPred(t, []int{tyInt, tyText, tyInt}, s)
		wantNoPred(t, []int{tyInt, tyText, tyInt}, "not("+s+"x)")
	}
}

// TestParsePredLimits has texts at a limit and beyond it.
func TestParsePredLimits(t *testing.T) {
	cols := []int{tyInt}
	for k := range 12 {
		s := strings.Repeat("not(", k) + "all" + strings.Repeat(")", k)
		wantPlainPred(t, cols, s)
		if _, ok := impl.ParsePred(cols, s); ok != (k < mostDeep) {
			t.Errorf("ParsePred(%q) returns %v", s, ok)
		}
		for _, word := range []string{"and(", "or("} {
			s := word + strings.TrimSuffix(strings.Repeat("c0=1,", k), ",") + ")"
			wantPlainPred(t, cols, s)
			if _, ok := impl.ParsePred(cols, s); ok != (k >= 1 && k <= 4) {
				t.Errorf("ParsePred(%q) returns %v", s, ok)
			}
		}
	}
	for first := range 5 {
		for second := range 5 {
			part := func(k int) string { return "or(" + strings.TrimSuffix(strings.Repeat("all,", k), ",") + ")" }
			for _, s := range []string{"and(" + part(first) + "," + part(second) + ")", "and(" + part(first) + ",all," + part(second) + ")", "not(and(" + part(first) + "," + part(second) + "))"} {
				wantPlainPred(t, cols, s)
			}
		}
	}
}

func TestParsePredCols(t *testing.T) {
	texts := []string{"all", "c0<5", "c0='a", "not(all)", "and(all,c0<5)", "c1<5", "c1='a", "c2<5", "c3<5", "c2='"}
	for _, cols := range goodCols() {
		for _, s := range texts {
			wantPlainPred(t, cols, s)
		}
		for k, ty := range cols {
			wantPred(t, cols, "c"+strconv.Itoa(k)+map[int]string{tyInt: ">=7", tyText: ">='b"}[ty], cmpOf(k, cpLeast, map[int]impl.Val{tyInt: intOf(7), tyText: textOf("b")}[ty]))
		}
	}
	for _, cols := range wrongCols() {
		for _, s := range texts {
			wantNoPred(t, cols, s)
		}
	}
}

func TestParsePredShortTexts(t *testing.T) {
	cols := []int{tyInt, tyText}
	for _, l := range listsOf(6, "all", "c0<5", "c1!='a", "and(", "not(", ",", ")") {
		wantPlainPred(t, cols, strings.Join(l, ""))
	}
	for _, l := range listsOf(5, "c", "0", "1", "<", "=", "!", ">", "'", "a", "-") {
		wantPlainPred(t, cols, strings.Join(l, ""))
		wantPlainPred(t, cols, "c0"+strings.Join(l, ""))
	}
}

func TestParsePredNearTexts(t *testing.T) {
	for _, s := range []string{"all", "c0<=5", "c1='red", "c0!=-10", "not(all)", "and(c0<5,not(c1='a))", "or(all,c1>=')", "not(not(not(c0>0)))", "and(or(all,all,all),and(all,all))", "or(all,c0<1,all,c1='a)"} {
		wantPlainPred(t, []int{tyInt, tyText}, s)
		for _, near := range nearTexts(s) {
			wantPlainPred(t, []int{tyInt, tyText}, near)
		}
	}
}

func TestParsePredLongTexts(t *testing.T) {
	cols := []int{tyInt, tyText}
	k := 1000000
	for _, s := range []string{
		strings.Repeat("not(", k), strings.Repeat("and(", k) + "all" + strings.Repeat(")", k), "and(" + strings.Repeat("all,", k) + "all)", strings.Repeat("c", k), strings.Repeat("all", k), strings.Repeat("(", k), strings.Repeat(",", k),
		"c" + strings.Repeat("0", k) + "<5", "c" + strings.Repeat("1", k) + "<5", "c0" + strings.Repeat("<", k) + "5", "c0<" + strings.Repeat("5", k), "c1='" + strings.Repeat("a", k), "c0<5" + strings.Repeat(")", k), "c0<5" + strings.Repeat(" ", k), "not(c0<5" + strings.Repeat(",c0<5", k) + ")",
	} {
		wantNoPred(t, cols, s)
	}
}

// TestPredTextIsParsed is the second half of P11.
func TestPredTextIsParsed(t *testing.T) {
	cols := []int{tyInt, tyText}
	for _, p := range goodPreds() {
		wantPred(t, cols, impl.PredText(p), p)
	}
	valid := 0
	for i, p := range fewPreds(3) {
		if i < 1000 || i%5 == 0 {
			if impl.PredOk(cols, p) {
				wantPred(t, cols, impl.PredText(p), p)
				valid++
			} else {
				wantPlainPred(t, cols, impl.PredText(p))
			}
		}
	}
	r := fixedChance()
	for range 20000 {
		p := chanceGood(r)
		wantPredOk(t, cols, p, true)
		wantPred(t, cols, impl.PredText(p), p)
	}
	for _, v := range goodVals() {
		wantPred(t, cols, impl.PredText(cmpOf(v.Ty-1, cpMost, v)), cmpOf(v.Ty-1, cpMost, v))
	}
	if valid < 100 {
		t.Errorf("only %d short predicates are valid", valid)
	}
}

// TestParsedPredIsValid has texts that are near to those of predicates: what is parsed has this text.
func TestParsedPredIsValid(t *testing.T) {
	cols := []int{tyInt, tyText}
	r := fixedChance()
	parsed := 0
	for range 40000 {
		b := []byte(plainPredText(chancePred(r, 4)))
		if len(b) > 0 && r.IntN(2) == 0 {
			b[r.IntN(len(b))] = "alc01<=!>'(),-"[r.IntN(14)]
		}
		wantPlainPred(t, cols, string(b))
		if p, ok := impl.ParsePred(cols, string(b)); ok {
			parsed++
			wantPredOk(t, cols, p, true)
			wantPredText(t, p, string(b))
		}
	}
	if parsed < 1000 {
		t.Errorf("only %d texts were parsed", parsed)
	}
}

// TestPredWithinItself has lists that contain themselves. They have no end, but the calls do.
func TestPredWithinItself(t *testing.T) {
	cols := []int{tyInt}
	for _, kind := range []int{prAnd, prOr, prNot} {
		for k := 1; k <= 3; k++ {
			l := timesPred(k, impl.Pred{Kind: kind})
			for i := range l {
				l[i].L = l
			}
			around := notOf(andOf(l...), impl.Pred{Kind: prAll})
			for _, p := range []impl.Pred{l[0], l[k-1], around} {
				wantPredOk(t, cols, p, false)
				holds, may, text := impl.Holds(p, nil), impl.MayHold(p, nil), impl.PredText(p)
				wantTrue(t, p, nil, holds)
				wantCan(t, p, nil, may)
				wantPredText(t, p, text)
			}
			// These kinds ignore their operands.
			wantTrue(t, impl.Pred{Kind: prAll, L: l}, nil, true)
			wantCan(t, impl.Pred{Kind: prAll, L: l}, nil, true)
			wantPredText(t, impl.Pred{Kind: prAll, L: l}, "all")
			wantTrue(t, impl.Pred{Kind: 6, L: l}, nil, false)
			wantPredText(t, impl.Pred{Kind: prCmp, Op: cpLess, V: intOf(1), L: l}, "c0<1")
		}
	}
	loop := []impl.Pred{{Kind: prAll}, {Kind: prAll}}
	loop[1].L = loop
	wantTrue(t, andOf(loop...), nil, true)
	wantPredText(t, andOf(loop...), "and(all,all)")
}

// TestPredSharedOperands has one list at several places, none of which is within itself.
func TestPredSharedOperands(t *testing.T) {
	low := []impl.Pred{cmpOf(0, cpLess, intOf(5))}
	or := []impl.Pred{orOf(low...), notOf(low...), andOf(low...), orOf(low...)}
	p := andOf(orOf(or...), notOf(andOf(or...)), orOf(or...))
	for n := 4; n <= 5; n++ {
		wantTrue(t, p, []impl.Val{intOf(n)}, plainTrue(copyPred(p), []impl.Val{intOf(n)}))
	}
	z := []impl.Zone{zoneFrom(intOf(5), intOf(9))}
	wantCan(t, p, z, plainCan(copyPred(p), z))
	wantPredText(t, p, plainPredText(copyPred(p)))
	not := []impl.Pred{notOf(low...)}
	wantPredOk(t, []int{tyInt}, andOf(orOf(not...), orOf(not...)), true)
	wantPredOk(t, []int{tyInt}, orOf(andOf(low...), andOf(low...), notOf(low...)), true)
}

func TestPredMemory(t *testing.T) {
	r := fixedChance()
	preds := append(goodPreds(), fewPreds(2)...)
	for range 300 {
		preds = append(preds, chancePred(r, 5))
	}
	for _, want := range preds {
		p, check := sparePred(t, want)
		cols, checkCols := spare(t, tyInt, tyInt, tyText)
		row, checkRow := spareRow(t, rowOf(1, intOf(4), textOf("b")))
		z, checkZones := spare(t, zoneFrom(intOf(-9), intOf(9)), zoneFrom(intOf(2), intOf(5)), zoneFrom(textOf("a"), textOf("b")))
		wantPredOk(t, cols, p, plainPredOk(cols, want))
		wantTrue(t, p, row.L, plainTrue(want, row.L))
		wantCan(t, p, z, plainCan(want, z))
		wantPredText(t, p, plainPredText(want))
		wantPlainPred(t, cols, plainPredText(want))
		check("PredOk, Holds, MayHold and PredText")
		checkCols("PredOk and ParsePred")
		checkRow("Holds")
		checkZones("MayHold")
	}
}

func TestZonesMemory(t *testing.T) {
	for _, rows := range append(sampleRows(), chanceRows(fixedChance(), 9)) {
		l, check := spareRows(t, rows...)
		want := zonesPlainly(rows)
		first, second := impl.Zones(l), impl.Zones(l)
		scribble(first, zoneFrom(textOf("gone"), intOf(7)))
		check("Zones")
		for _, r := range l[:cap(l)] {
			scribble(r.L, textOf("gone"))
		}
		scribble(l, impl.Row{})
		if !slices.Equal(second, want) {
			t.Fatalf("Zones, its argument and another result overwritten: %v, want %v", second, want)
		}
	}
}

func TestParsePredMemory(t *testing.T) {
	cols := []int{tyInt, tyText}
	for _, want := range goodPreds() {
		s := plainPredText(want)
		first, _ := impl.ParsePred(cols, s)
		second, _ := impl.ParsePred(cols, s)
		scribblePred(first)
		third, _ := impl.ParsePred(cols, s)
		if !samePred(second, want) || !samePred(third, want) {
			t.Fatalf("ParsePred(%q), another result overwritten: %v and %v, want %v", s, second, third, want)
		}
		scribbleSpare(second)
		if !samePred(second, want) {
			t.Fatalf("ParsePred(%q), its spare capacity overwritten: %v, want %v", s, second, want)
		}
	}
}

func TestPredsStayTheSame(t *testing.T) {
	cols := []int{tyInt, tyText}
	p := andOf(cmpOf(0, cpLess, intOf(5)), notOf(cmpOf(1, cpSame, textOf("a"))))
	for range 3 {
		wantPred(t, cols, "and(c0<5,not(c1='a))", p)
		wantNoPred(t, cols, "and(c0<5,not(c1='a)")
		wantNoPred(t, cols[:1], "and(c0<5,not(c1='a))")
		wantPredOk(t, cols, p, true)
		wantPredOk(t, cols[:1], p, false)
		wantTrue(t, p, []impl.Val{intOf(4), textOf("b")}, true)
		wantTrue(t, p, []impl.Val{intOf(4), textOf("a")}, false)
		wantCan(t, p, []impl.Zone{zoneFrom(intOf(5), intOf(6)), zoneFrom(textOf("b"), textOf("c"))}, false)
		wantCan(t, p, []impl.Zone{zoneFrom(intOf(4), intOf(6)), zoneFrom(textOf("a"), textOf("c"))}, true)
		wantPredText(t, p, "and(c0<5,not(c1='a))")
	}
}
