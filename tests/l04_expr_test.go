package tests

import (
	"math"
	"math/rand"
	"slices"
	"strconv"
	"strings"
	"testing"
	"unsafe"

	"loop.example/g00236/impl"
)

func intX(n int) impl.Expr { return impl.Expr{K: impl.XInt, N: n} }

func atomX(s string) impl.Expr { return impl.Expr{K: impl.XAtom, S: s} }

func varX(s string) impl.Expr { return impl.Expr{K: impl.XVar, S: s} }

func tupleX(l ...impl.Expr) impl.Expr { return impl.Expr{K: impl.XTuple, E: l} }

func listX(l ...impl.Expr) impl.Expr { return impl.Expr{K: impl.XList, E: l} }

func consX(l ...impl.Expr) impl.Expr { return impl.Expr{K: impl.XCons, E: l} }

func opX(s string, l ...impl.Expr) impl.Expr { return impl.Expr{K: impl.XOp, S: s, E: l} }

func callX(s string, l ...impl.Expr) impl.Expr { return impl.Expr{K: impl.XCall, S: s, E: l} }

func caseX(e impl.Expr, c ...impl.Clause) impl.Expr {
	return impl.Expr{K: impl.XCase, E: []impl.Expr{e}, C: c}
}

func clauseX(p impl.Expr, x impl.Expr) impl.Clause { return impl.Clause{P: p, X: x} }

// timesX: one expression so many times; what it holds is shared.
func timesX(n int, e impl.Expr) []impl.Expr { return slices.Repeat([]impl.Expr{e}, n) }

func clausesX(n int) []impl.Clause {
	return slices.Repeat([]impl.Clause{clauseX(varX("_"), intX(1))}, n)
}

// nestedX: the innermost expression within so many lists.
func nestedX(times int, inner impl.Expr) impl.Expr {
	for range times {
		inner = listX(inner)
	}
	return inner
}

// countedX: a pattern with just so many in all (at least 1, at most 421), in tuples of 20 and one that holds them.
func countedX(count int) impl.Expr {
	var l []impl.Expr
	for left := count - 1; left > 0; {
		size := min(left, 21)
		l = append(l, tupleX(timesX(size-1, intX(left))...))
		left -= size
	}
	return impl.Expr{K: impl.XList, E: l}
}

// rightPats: these are right as patterns, and, without the name `_`, as expressions.
func rightPats() []impl.Expr {
	return []impl.Expr{
		intX(0), intX(1), intX(impl.MaxInt), intX(impl.MaxInt - 1),
		atomX("a"), atomX("ok"), atomX("cases"), atomX("cas"), atomX("offer"), atomX("ofx"), atomX("ends"), atomX("end_"), atomX("en"), atomX("true"), atomX(twentySmall),
		varX("A"), varX("Z9"), varX("__"), varX("_a"), varX("_1"), varX(twentyMixed),
		tupleX(), listX(), tupleX(intX(1)), listX(varX("A")), tupleX(timesX(20, intX(1))...), listX(timesX(20, atomX("a"))...), tupleX(varX("A"), varX("B"), varX("Aa")),
		consX(intX(1), listX()), consX(timesX(6, intX(1))...), consX(varX("H"), varX("T")), consX(intX(1), intX(2)), consX(intX(1), consX(atomX("b"), varX("T"))),
		nestedX(9, intX(1)), nestedX(9, tupleX()), nestedX(8, consX(intX(1), varX("T"))), countedX(300),
	}
}

// onlyExprs: these are right as expressions, but no patterns.
func onlyExprs() []impl.Expr {
	return []impl.Expr{
		opX("+", intX(1), varX("A")), opX("-", intX(1), intX(1)), opX("*", intX(1), intX(1)), opX("==", listX(), tupleX()), opX("<", atomX("a"), atomX("b")),
		callX("f"), callX("f", intX(1)), callX("case_", timesX(4, varX("A"))...), callX(twentySmall, callX("g"), callX("h")),
		caseX(varX("A"), clausesX(1)...), caseX(intX(1), clausesX(6)...),
		caseX(varX("A"), clauseX(varX("A"), varX("A")), clauseX(tupleX(varX("_"), varX("_"), varX("A")), varX("A"))),
		caseX(caseX(intX(1), clausesX(1)...), clauseX(intX(1), caseX(intX(2), clausesX(2)...))),
		tupleX(varX("A"), varX("A")), listX(opX("+", intX(1), intX(1))), tupleX(callX("f")), consX(callX("f"), caseX(intX(1), clausesX(1)...)),
	}
}

func TestRightExprs(t *testing.T) {
	for i, e := range rightPats() {
		if !impl.ExprOk(e) || !impl.PatOk(e) {
			t.Errorf("%d: %+v: %v, %v", i, e, impl.ExprOk(e), impl.PatOk(e))
		}
	}
	for i, e := range onlyExprs() {
		if !impl.ExprOk(e) || impl.PatOk(e) {
			t.Errorf("%d: %+v: %v, %v", i, e, impl.ExprOk(e), impl.PatOk(e))
		}
	}
}

// wrongExprs: each has one fault alone, at the top, and is no pattern either.
func wrongExprs() []impl.Expr {
	one := intX(1)
	l := []impl.Expr{
		intX(-1), intX(impl.MaxInt + 1), intX(math.MinInt), intX(math.MaxInt),
		atomX(""), atomX("case"), atomX("of"), atomX("end"), atomX("A"), atomX("_"), atomX("_a"), atomX("1"), atomX("aB"), atomX("a b"), atomX("é"), atomX(twentySmall + "u"),
		varX(""), varX("a"), varX("1"), varX("1A"), varX("A b"), varX("A-"), varX("É"), varX(twentyMixed + "x"), varX(strings.Repeat("_", 21)),
		tupleX(timesX(21, one)...), listX(timesX(21, one)...), tupleX(timesX(60, one)...), listX(timesX(60, one)...),
		consX(), consX(one), consX(timesX(7, one)...), consX(timesX(20, one)...),
		opX("+"), opX("+", one), opX("+", one, one, one), opX("==", one), opX("<", timesX(20, one)...),
		callX("f", timesX(5, one)...), callX("f", timesX(20, one)...), callX(""), callX("case"), callX("of", one), callX("end"), callX("F"), callX("_"), callX("f()"), callX(twentySmall + "u"),
		caseX(one), caseX(one, clausesX(7)...), caseX(one, clausesX(20)...), {K: impl.XCase}, {K: impl.XCase, C: clausesX(1)}, {K: impl.XCase, E: []impl.Expr{one, one}, C: clausesX(1)},
		caseX(one, clauseX(tupleX(varX("A"), varX("A")), one)), caseX(one, clauseX(impl.Expr{}, one)), caseX(one, clauseX(one, impl.Expr{})), caseX(one, impl.Clause{}),
		nestedX(10, one), nestedX(10, tupleX()), nestedX(20, one), countedX(301), countedX(302), countedX(400),
	}
	for _, s := range []string{"", "->", "=", "=<", "<=", ">", "/", "++", "+ ", " +", "a", "plus", "A", "(", "|", "\x00", "+\x00", "====", "é"} {
		l = append(l, opX(s, one, one))
	}
	for _, k := range []int{-1, 0, 10, 11, 256 + impl.XInt, math.MinInt, math.MaxInt} {
		l = append(l, impl.Expr{K: k}, impl.Expr{K: k, N: 1}, impl.Expr{K: k, S: "a"}, impl.Expr{K: k, S: "A"}, impl.Expr{K: k, E: timesX(2, one)}, impl.Expr{K: k, E: []impl.Expr{one}, C: clausesX(1)})
	}
	return append(l, unnamedFields()...)
}

// unnamedFields: right ones of each kind with one field that their kind does not name.
func unnamedFields() []impl.Expr {
	one := intX(1)
	var l []impl.Expr
	for _, e := range []impl.Expr{one, atomX("a"), varX("A"), tupleX(one), listX(), consX(one, listX()), opX("+", one, one), callX("f", one), caseX(one, clausesX(1)...)} {
		if e.K != impl.XInt {
			for _, n := range []int{1, -1, impl.MaxInt} {
				e.N = n
				l = append(l, e)
			}
			e.N = 0
		}
		if e.S == "" {
			for _, s := range []string{"a", "A", "_", "+", "\x00", " "} {
				e.S = s
				l = append(l, e)
			}
			e.S = ""
		}
		if e.K <= impl.XVar {
			e.E = []impl.Expr{one}
			l = append(l, e)
			e.E = nil
		}
		if e.K != impl.XCase {
			e.C = clausesX(1)
			l = append(l, e)
		}
	}
	return l
}

// around: the expression at every place that one can stand at but that of a pattern.
func around(e impl.Expr) []impl.Expr {
	one := intX(1)
	return []impl.Expr{
		tupleX(e), listX(one, e), consX(e, one), consX(one, e), opX("+", e, one), opX("<", one, e), callX("f", one, one, one, e),
		caseX(e, clausesX(1)...), caseX(one, clauseX(one, e)), caseX(one, clauseX(one, one), clauseX(one, e)), caseX(one, clauseX(one, e), clauseX(one, one)), tupleX(one, listX(opX("*", one, e))),
	}
}

// aroundPattern: the expression at every place within a pattern.
func aroundPattern(e impl.Expr) []impl.Expr {
	one := intX(1)
	return []impl.Expr{tupleX(e), listX(one, e), consX(e, one), consX(one, e), tupleX(one, listX(consX(one, tupleX(e))))}
}

func TestWrongExprs(t *testing.T) {
	for i, wrong := range wrongExprs() {
		if impl.ExprOk(wrong) || impl.PatOk(wrong) {
			t.Errorf("%d: %+v: %v, %v", i, wrong, impl.ExprOk(wrong), impl.PatOk(wrong))
		}
		for k, e := range around(wrong) {
			if impl.ExprOk(e) {
				t.Errorf("%d: %+v around %+v is right", k, e, wrong)
			}
		}
		for k, p := range append(aroundPattern(wrong), wrong) {
			if impl.PatOk(p) {
				t.Errorf("%d: a pattern around %+v is right", k, wrong)
			}
			if impl.ExprOk(caseX(intX(1), clauseX(p, intX(1)))) || impl.ExprOk(caseX(intX(1), clauseX(intX(1), intX(1)), clauseX(p, intX(1)))) {
				t.Errorf("%d: a clause of a pattern around %+v is right", k, wrong)
			}
		}
	}
}

func TestPatternsHaveTheirKinds(t *testing.T) {
	for i, e := range onlyExprs() {
		if e.K == impl.XTuple {
			continue
		}
		for k, p := range append(aroundPattern(e), e) {
			if impl.PatOk(p) || impl.ExprOk(caseX(intX(1), clauseX(p, intX(1)))) {
				t.Errorf("%d, %d: %+v is a pattern", i, k, p)
			}
		}
		for k, x := range around(e) {
			if !impl.ExprOk(x) {
				t.Errorf("%d, %d: %+v is not right", i, k, x)
			}
		}
	}
}

func TestEmptyListsAreNone(t *testing.T) {
	for _, e := range append(rightPats(), onlyExprs()...) {
		bare := e
		if len(e.E) == 0 {
			e.E = []impl.Expr{}
		}
		if len(e.C) == 0 {
			e.C = []impl.Clause{}
		}
		if !impl.ExprOk(e) || impl.PatOk(e) != impl.PatOk(bare) || !impl.SameExpr(e, bare) || !impl.SameExpr(bare, e) {
			t.Errorf("%+v", e)
		}
	}
}

// TestAnyNameStandsInPatterns: `_` alone, not the names that begin with it.
func TestAnyNameStandsInPatterns(t *testing.T) {
	blank := varX("_")
	for i, p := range append(aroundPattern(blank), blank, tupleX(blank, blank), consX(blank, blank), listX(blank, varX("A"), blank, tupleX(blank, varX("__")))) {
		if !impl.PatOk(p) || impl.ExprOk(p) {
			t.Errorf("%d: %+v: %v, %v", i, p, impl.PatOk(p), impl.ExprOk(p))
		}
		if !impl.ExprOk(caseX(intX(1), clauseX(p, intX(1)))) || !impl.ExprOk(caseX(intX(1), clauseX(p, intX(1)), clauseX(p, intX(1)))) {
			t.Errorf("%d: a clause of %+v is not right", i, p)
		}
		if impl.ExprOk(caseX(intX(1), clauseX(intX(1), p))) || impl.ExprOk(caseX(p, clausesX(1)...)) {
			t.Errorf("%d: %+v outside of a pattern is right", i, p)
		}
	}
	for i, e := range around(blank) {
		if impl.ExprOk(e) {
			t.Errorf("%d: %+v is right", i, e)
		}
	}
	for i, e := range append(around(varX("__")), around(varX("_a"))...) {
		if !impl.ExprOk(e) {
			t.Errorf("%d: %+v is not right", i, e)
		}
	}
}

func TestNamesTwice(t *testing.T) {
	a := varX("A")
	shared := []impl.Expr{a}
	for i, p := range []impl.Expr{
		tupleX(a, a), listX(a, intX(1), a), consX(a, a), consX(a, intX(1), listX(a)), tupleX(tupleX(a), listX(tupleX(a))), listX(varX("B"), a, varX("C"), tupleX(varX("D"), a)),
		tupleX(varX("_A"), varX("_A")), tupleX(varX("__"), varX("__")), tupleX(a, varX("_"), varX("_"), a),
		{K: impl.XTuple, E: []impl.Expr{{K: impl.XList, E: shared}, {K: impl.XList, E: shared}}},
	} {
		if impl.PatOk(p) || impl.ExprOk(caseX(intX(1), clauseX(p, intX(1)))) {
			t.Errorf("%d: %+v is a pattern", i, p)
		}
	}
	for i, e := range []impl.Expr{
		tupleX(a, a), caseX(a, clauseX(a, a)), caseX(intX(1), clauseX(a, intX(1)), clauseX(a, intX(1))), caseX(intX(1), clauseX(a, caseX(a, clauseX(a, a)))),
		caseX(intX(1), clauseX(tupleX(a, varX("AA"), varX("Aa")), intX(1))),
	} {
		if !impl.ExprOk(e) {
			t.Errorf("%d: %+v is not right", i, e)
		}
	}
	if !impl.PatOk(tupleX(a, varX("AA"), varX("Aa"), varX("_A"), varX("A_"), varX("A1"))) {
		t.Error("six names are not unlike")
	}
}

// deepWays: one expression around another; each is right when the inner one is, and may be a pattern's part where the way says so.
var deepWays = []struct {
	name string
	wrap func(impl.Expr) impl.Expr
	pat  bool
}{
	{"tuple", func(e impl.Expr) impl.Expr { return tupleX(intX(1), e) }, true},
	{"list", func(e impl.Expr) impl.Expr { return listX(e, intX(1)) }, true},
	{"cons", func(e impl.Expr) impl.Expr { return consX(intX(1), e) }, true},
	{"op", func(e impl.Expr) impl.Expr { return opX("+", e, intX(1)) }, false},
	{"call", func(e impl.Expr) impl.Expr { return callX("f", e) }, false},
	{"E of a case", func(e impl.Expr) impl.Expr { return caseX(e, clausesX(1)...) }, false},
	{"X of a clause", func(e impl.Expr) impl.Expr { return caseX(intX(1), clauseX(intX(1), intX(1)), clauseX(intX(1), e)) }, false},
}

func TestExprDepth(t *testing.T) {
	for _, way := range deepWays {
		e := intX(1)
		for deep := 1; deep <= 14; deep++ {
			if impl.ExprOk(e) != (deep <= 10) {
				t.Errorf("%s, %d deep: %v", way.name, deep, impl.ExprOk(e))
			}
			if way.pat {
				if impl.PatOk(e) != (deep <= 10) {
					t.Errorf("%s, a pattern %d deep: %v", way.name, deep, impl.PatOk(e))
				}
				if x := caseX(intX(1), clauseX(e, intX(1))); impl.ExprOk(x) != (deep+1 <= 10) {
					t.Errorf("%s, P %d deep: %v", way.name, deep, impl.ExprOk(x))
				}
				if x := listX(tupleX(caseX(intX(1), clauseX(varX("_"), intX(1)), clauseX(e, intX(1))))); impl.ExprOk(x) != (deep+3 <= 10) {
					t.Errorf("%s, P %d deep in a list in a tuple: %v", way.name, deep, impl.ExprOk(x))
				}
			}
			if x := caseX(intX(1), clauseX(intX(1), e)); impl.ExprOk(x) != (deep+1 <= 10) {
				t.Errorf("%s, X %d deep: %v", way.name, deep, impl.ExprOk(x))
			}
			e = way.wrap(e)
		}
	}
}

func TestExprCount(t *testing.T) {
	for count := 280; count <= 310; count++ {
		e := countedX(count)
		if want := count <= 300; impl.ExprOk(e) != want || impl.PatOk(e) != want {
			t.Errorf("%d in all: %v, %v", count, impl.ExprOk(e), impl.PatOk(e))
		}
		if x := caseX(intX(1), clauseX(e, intX(1))); impl.ExprOk(x) != (count+3 <= 300) {
			t.Errorf("%d in P: %v", count, impl.ExprOk(x))
		}
		if x := caseX(intX(1), clauseX(intX(1), e)); impl.ExprOk(x) != (count+3 <= 300) {
			t.Errorf("%d in X: %v", count, impl.ExprOk(x))
		}
		if x := caseX(e, clausesX(3)...); impl.ExprOk(x) != (count+7 <= 300) {
			t.Errorf("%d in E: %v", count, impl.ExprOk(x))
		}
		half := countedX(count / 2)
		if x := caseX(intX(1), clauseX(half, countedX(count-count/2-6)), clausesX(1)[0], clauseX(tupleX(), intX(1))); impl.ExprOk(x) != (count <= 300) {
			t.Errorf("%d in clauses: %v", count, impl.ExprOk(x))
		}
		if x := tupleX(half, countedX(count-count/2-1)); impl.ExprOk(x) != (count <= 300) || impl.PatOk(x) != (count <= 300) {
			t.Errorf("%d in two: %v", count, impl.ExprOk(x))
		}
	}
}

func tells(t *testing.T, what string, got []string, want string) {
	t.Helper()
	if !slices.Equal(got, strings.Fields(want)) {
		t.Errorf("%s: %v, not %s", what, got, want)
	}
}

func TestVarsOf(t *testing.T) {
	a, b, c, blank := varX("A"), varX("B"), varX("C"), varX("_")
	for _, x := range []struct {
		e    impl.Expr
		want string
	}{
		{intX(1), ""}, {atomX("a"), ""}, {a, "A"}, {blank, ""}, {varX("__"), "__"}, {varX("_a"), "_a"}, {tupleX(), ""}, {listX(), ""},
		{tupleX(a, b), "A B"}, {tupleX(b, a), "B A"}, {listX(c, intX(1), a, blank, b), "C A B"}, {consX(b, a), "B A"}, {consX(blank, c, listX(a), b), "C A B"},
		{tupleX(listX(c), atomX("a"), tupleX(tupleX(b), blank), a), "C B A"}, {tupleX(blank, blank), ""},
		// Of another one: of its E alone, as they come.
		{opX("+", b, a), "B A"}, {opX("+", a, a), "A A"}, {callX("f", c, listX(a), c), "C A C"}, {callX("f"), ""}, {tupleX(a, blank, a), "A A"},
		{caseX(b, clauseX(a, c)), "B"}, {caseX(intX(1), clauseX(a, c)), ""}, {caseX(tupleX(b, a), clauseX(c, c), clauseX(tupleX(c, a), b)), "B A"},
		{tupleX(a, caseX(b, clauseX(c, c)), c), "A B C"}, {opX("*", caseX(caseX(b, clausesX(1)...), clauseX(a, a)), c), "B C"}, {listX(callX("f", opX("-", blank, b)), a), "B A"},
		{impl.Expr{}, ""}, {impl.Expr{K: 99, S: "A"}, ""}, {impl.Expr{K: 99, S: "A", E: []impl.Expr{b, a}}, "B A"}, {impl.Expr{K: impl.XAtom, S: "A", E: []impl.Expr{c}}, "C"}, {impl.Expr{K: impl.XTuple, E: []impl.Expr{b}, C: []impl.Clause{clauseX(a, c)}}, "B"},
		{listX(timesX(3, a)...), "A A A"}, {nestedX(50, tupleX(b, a)), "B A"},
	} {
		tells(t, "VarsOf", impl.VarsOf(x.e), x.want)
	}
}

func TestFreeOf(t *testing.T) {
	a, b, c, d, blank := varX("A"), varX("B"), varX("C"), varX("D"), varX("_")
	for _, x := range []struct {
		e    impl.Expr
		want string
	}{
		{intX(1), ""}, {atomX("a"), ""}, {a, "A"}, {tupleX(), ""}, {callX("f"), ""},
		{tupleX(a, b), "A B"}, {tupleX(b, a, b, a), "B A"}, {listX(c, listX(a, c), b), "C A B"}, {consX(b, a, b), "B A"}, {opX("+", b, b), "B"}, {callX("f", c, a, c, b), "C A B"},
		// Bound by a clause's pattern.
		{caseX(intX(1), clauseX(a, a)), ""}, {caseX(intX(1), clauseX(a, b)), "B"}, {caseX(intX(1), clauseX(tupleX(a, listX(b)), opX("+", b, a))), ""}, {caseX(intX(1), clauseX(consX(a, b), tupleX(c, b, a, d))), "C D"},
		// A name of a pattern alone is not free.
		{caseX(intX(1), clauseX(a, intX(1))), ""}, {caseX(c, clauseX(tupleX(a, b), intX(1))), "C"},
		// Bound in one clause, free in another.
		{caseX(intX(1), clauseX(a, a), clauseX(b, a)), "A"}, {caseX(intX(1), clauseX(b, a), clauseX(a, a)), "A"}, {caseX(intX(1), clauseX(a, b), clauseX(b, a)), "B A"}, {caseX(intX(1), clauseX(a, tupleX(c, a)), clauseX(c, tupleX(a, c)), clauseX(blank, tupleX(a, c))), "C A"},
		// Free in the E of a case whose clauses bind them.
		{caseX(a, clauseX(a, a)), "A"}, {caseX(a, clauseX(b, a)), "A"}, {caseX(tupleX(b, a), clauseX(tupleX(a, b), tupleX(a, b))), "B A"}, {caseX(a, clauseX(a, tupleX(a, b, a)), clauseX(a, c)), "A B C"},
		// Bound within is free behind.
		{tupleX(caseX(intX(1), clauseX(a, a)), a), "A"}, {tupleX(caseX(b, clauseX(a, a)), b, a), "B A"}, {listX(caseX(intX(1), clauseX(tupleX(a, b), a)), b, caseX(intX(1), clauseX(b, tupleX(b, a)))), "B A"},
		// A name that is bound twice around each other stays bound behind the inner one.
		{caseX(intX(1), clauseX(a, tupleX(caseX(intX(1), clauseX(a, a)), a))), ""},
		{caseX(intX(1), clauseX(a, tupleX(caseX(intX(1), clauseX(a, a), clauseX(b, a), clauseX(a, b)), a, b)), clauseX(blank, a)), "B A"},
		{caseX(intX(1), clauseX(tupleX(a, b), caseX(a, clauseX(tupleX(b, c), tupleX(a, b, c, d)), clauseX(intX(1), c)))), "D C"},
		{caseX(intX(1), clauseX(a, caseX(a, clauseX(b, caseX(b, clauseX(c, tupleX(a, b, c, d))))))), "D"},
		{caseX(caseX(a, clauseX(b, b)), clauseX(c, b)), "A B"}, {caseX(caseX(intX(1), clauseX(b, tupleX(a, b))), clauseX(a, tupleX(b, a))), "A B"},
		// `_` binds nothing, and what is only like a name is another one.
		{caseX(intX(1), clauseX(blank, varX("__"))), "__"}, {caseX(intX(1), clauseX(varX("__"), varX("_a"))), "_a"}, {caseX(intX(1), clauseX(varX("Aa"), a)), "A"},
		{blank, "_"}, {tupleX(a, blank, blank), "A _"}, {caseX(intX(1), clauseX(blank, blank)), "_"},
		// Of a clause whose P is no pattern those in VarsOf P are bound.
		{caseX(intX(1), clauseX(tupleX(a, a), tupleX(a, b))), "B"}, {caseX(intX(1), clauseX(opX("+", a, c), tupleX(a, b, c))), "B"}, {caseX(intX(1), clauseX(caseX(a, clauseX(b, c)), tupleX(a, b, c))), "B C"},
		// Atoms and calls have no names.
		{caseX(intX(1), clauseX(a, callX("a", atomX("a"), a))), ""}, {impl.Expr{K: impl.XAtom, S: "A"}, ""}, {impl.Expr{}, ""}, {impl.Expr{K: 99, S: "A", E: []impl.Expr{b}}, "B"},
	} {
		tells(t, "FreeOf", impl.FreeOf(x.e), x.want)
	}
}

// plainOk: the chapter's words once more, without a limit but those, as another witness.
func plainOk(e impl.Expr, pat bool) bool {
	count, deep, fits := plainForm(e, pat)
	return fits && count <= 300 && deep <= 10
}

// plainForm: how many in all, how deep, and whether each is as told.
func plainForm(e impl.Expr, pat bool) (int, int, bool) {
	count, deep := 1, 0
	take := func(n int, d int, ok bool) bool {
		count, deep = count+n, max(deep, d)
		return ok
	}
	fits := true
	for _, x := range e.E {
		fits = take(plainForm(x, pat)) && fits
	}
	for _, c := range e.C {
		fits = take(plainForm(c.P, true)) && fits
		fits = take(plainForm(c.X, false)) && fits
		l := plainVars(c.P)
		for i, name := range l {
			fits = fits && !slices.Contains(l[:i], name)
		}
	}
	if pat {
		l := plainVars(e)
		for i, name := range l {
			fits = fits && !slices.Contains(l[:i], name)
		}
	}
	n, zeroN, zeroS, zeroE, zeroC := len(e.E), e.N == 0, e.S == "", len(e.E) == 0, len(e.C) == 0
	atom := impl.AtomOk(e.S) && !slices.Contains([]string{"case", "of", "end"}, e.S)
	own := map[int]bool{
		impl.XInt:   e.N >= 0 && e.N <= impl.MaxInt && zeroS && zeroE && zeroC,
		impl.XAtom:  atom && zeroN && zeroE && zeroC,
		impl.XVar:   impl.TokenOk(varToken(e.S)) && (pat || e.S != "_") && zeroN && zeroE && zeroC,
		impl.XTuple: n <= 20 && zeroN && zeroS && zeroC,
		impl.XList:  n <= 20 && zeroN && zeroS && zeroC,
		impl.XCons:  n >= 2 && n <= 6 && zeroN && zeroS && zeroC,
		impl.XOp:    !pat && n == 2 && slices.Contains(strings.Fields("+ - * == <"), e.S) && zeroN && zeroC,
		impl.XCall:  !pat && n <= 4 && atom && zeroN && zeroC,
		impl.XCase:  !pat && n == 1 && len(e.C) >= 1 && len(e.C) <= 6 && zeroN && zeroS,
	}
	return count, deep + 1, fits && own[e.K]
}

func plainVars(e impl.Expr) []string {
	var l []string
	if e.K == impl.XVar && e.S != "_" {
		l = append(l, e.S)
	}
	for _, x := range e.E {
		l = append(l, plainVars(x)...)
	}
	return l
}

func plainFree(e impl.Expr) []string {
	var all []string
	if e.K == impl.XVar {
		all = append(all, e.S)
	}
	for _, x := range e.E {
		all = append(all, plainFree(x)...)
	}
	for _, c := range e.C {
		bound := plainVars(c.P)
		for _, name := range plainFree(c.X) {
			if !slices.Contains(bound, name) {
				all = append(all, name)
			}
		}
	}
	var once []string
	for _, name := range all {
		if !slices.Contains(once, name) {
			once = append(once, name)
		}
	}
	return once
}

func plainSame(a impl.Expr, b impl.Expr) bool {
	if a.K != b.K || a.N != b.N || a.S != b.S || len(a.E) != len(b.E) || len(a.C) != len(b.C) {
		return false
	}
	for i := range a.E {
		if !plainSame(a.E[i], b.E[i]) {
			return false
		}
	}
	for i := range a.C {
		if !plainSame(a.C[i].P, b.C[i].P) || !plainSame(a.C[i].X, b.C[i].X) {
			return false
		}
	}
	return true
}

func plainCopy(e impl.Expr) impl.Expr {
	e.S = strings.Clone(e.S)
	var parts []impl.Expr
	for _, x := range e.E {
		parts = append(parts, plainCopy(x))
	}
	var clauses []impl.Clause
	for _, c := range e.C {
		clauses = append(clauses, clauseX(plainCopy(c.P), plainCopy(c.X)))
	}
	e.E, e.C = parts, clauses
	return e
}

// mixedX: an expression of few names, mostly right ones; the same seed gives the same ones.
func mixedX(r *rand.Rand, deep int, pat bool) impl.Expr {
	names := []string{"A", "B", "C", "D", "Aa", "_"}
	kind := 1 + r.Intn(9)
	if pat {
		kind = 1 + r.Intn(6)
	}
	if deep <= 1 && kind > impl.XVar {
		kind = impl.XVar
	}
	e := impl.Expr{K: kind}
	many := r.Intn(4)
	switch kind {
	case impl.XInt:
		e.N = r.Intn(5)
	case impl.XAtom:
		e.S = []string{"a", "b", "ok"}[r.Intn(3)]
	case impl.XVar:
		e.S = names[r.Intn(5)]
		if pat {
			e.S = names[r.Intn(6)]
		}
	case impl.XCons:
		many = 2 + r.Intn(3)
	case impl.XOp:
		e.S, many = strings.Fields("+ - * == <")[r.Intn(5)], 2
	case impl.XCall:
		e.S = "f"
	case impl.XCase:
		many = 1
		for range 1 + r.Intn(3) {
			e.C = append(e.C, clauseX(mixedX(r, min(deep-1, 3), true), mixedX(r, deep-1, false)))
		}
	}
	if kind > impl.XVar {
		for range many {
			e.E = append(e.E, mixedX(r, deep-1, pat))
		}
	}
	return e
}

// spoiltX: one place of an expression is changed, most often to what is wrong there.
func spoiltX(r *rand.Rand, e impl.Expr) impl.Expr {
	e = plainCopy(e)
	all := placesX(&e)
	at := all[r.Intn(len(all))]
	switch r.Intn(8) {
	case 0:
		at.K = r.Intn(12) - 1
	case 1:
		at.N = []int{0, 1, -1, impl.MaxInt, impl.MaxInt + 1}[r.Intn(5)]
	case 2:
		at.S = []string{"", "a", "A", "B", "_", "case", "of", "end", "+", "<", "=="}[r.Intn(11)]
	case 3:
		at.E = append(at.E, varX([]string{"A", "B", "_"}[r.Intn(3)]))
	case 4:
		at.E = at.E[:r.Intn(len(at.E)+1)]
	case 5:
		at.C = append(at.C, clauseX(varX("B"), varX("A")))
	case 6:
		at.C = at.C[:r.Intn(len(at.C)+1)]
	case 7:
		*at = varX([]string{"A", "B", "_"}[r.Intn(3)])
	}
	return e
}

// placesX: where each expression within stands, itself first.
func placesX(e *impl.Expr) []*impl.Expr {
	l := []*impl.Expr{e}
	for i := range e.E {
		l = append(l, placesX(&e.E[i])...)
	}
	for i := range e.C {
		l = append(l, placesX(&e.C[i].P)...)
		l = append(l, placesX(&e.C[i].X)...)
	}
	return l
}

func TestExprsByAnotherWitness(t *testing.T) {
	r := rand.New(rand.NewSource(5))
	right, pats, bound := 0, 0, 0
	for i := range 30000 {
		e := mixedX(r, 1+r.Intn(6), i%3 == 0)
		if i%2 == 0 {
			e = spoiltX(r, e)
		}
		for _, x := range []impl.Expr{e, caseX(e, clausesX(1)...), caseX(varX("A"), clauseX(e, e)), caseX(varX("B"), clauseX(varX("A"), e), clauseX(tupleX(varX("B"), varX("C")), e))} {
			if got, want := impl.ExprOk(x), plainOk(x, false); got != want {
				t.Fatalf("ExprOk %+v: %v", x, got)
			}
			if got, want := impl.PatOk(x), plainOk(x, true); got != want {
				t.Fatalf("PatOk %+v: %v", x, got)
			}
			if got, want := impl.VarsOf(x), plainVars(x); !slices.Equal(got, want) {
				t.Fatalf("VarsOf %+v: %v, not %v", x, got, want)
			}
			got, want := impl.FreeOf(x), plainFree(x)
			if !slices.Equal(got, want) {
				t.Fatalf("FreeOf %+v: %v, not %v", x, got, want)
			}
			if impl.ExprOk(x) {
				right++
			}
			if impl.PatOk(x) {
				pats++
			}
			if len(want) < len(impl.VarsOf(x)) {
				bound++
			}
		}
	}
	if right < 10000 || pats < 1000 || bound < 1000 {
		t.Error(right, "right ones,", pats, "patterns,", bound, "with names that are not told")
	}
}

func TestExprLimitsByAnotherWitness(t *testing.T) {
	r := rand.New(rand.NewSource(6))
	right, wrong := 0, 0
	for range 3000 {
		e := mixedX(r, 9+r.Intn(4), false)
		if impl.ExprOk(e) != plainOk(e, false) || !slices.Equal(impl.FreeOf(e), plainFree(e)) {
			t.Fatalf("%+v: %v", e, impl.ExprOk(e))
		}
		if impl.ExprOk(e) {
			right++
		} else {
			wrong++
		}
	}
	if right < 300 || wrong < 300 {
		t.Error(right, "right,", wrong, "wrong")
	}
}

// wholeX: an expression with every kind in it, and with lists in every list.
func wholeX() impl.Expr {
	return caseX(tupleX(varX("A"), intX(3), listX(varX("B"))),
		clauseX(tupleX(varX("A"), consX(intX(2), varX("T")), listX(atomX("a"))), opX("+", callX("f", varX("A"), varX("C")), intX(4))),
		clauseX(varX("_"), caseX(callX("g"), clauseX(intX(0), consX(varX("A"), listX())), clauseX(tupleX(), listX(intX(1), intX(2))))),
	)
}

// TestSameExpr: two are the same when all in them is, and unlike when one field of one in them is, each by each.
func TestSameExpr(t *testing.T) {
	base := wholeX()
	count := len(placesX(&base))
	for at := range count {
		for i, change := range []func(e *impl.Expr){
			func(e *impl.Expr) { e.K++ },
			func(e *impl.Expr) { e.K = -e.K },
			func(e *impl.Expr) { e.N++ },
			func(e *impl.Expr) { e.N = math.MinInt },
			func(e *impl.Expr) { e.S += "x" },
			func(e *impl.Expr) { e.S = "\x00" },
			func(e *impl.Expr) { e.E = append(e.E, impl.Expr{}) },
			func(e *impl.Expr) { e.E = append([]impl.Expr{{K: 1}}, e.E...) },
			func(e *impl.Expr) { e.C = append(e.C, impl.Clause{}) },
			func(e *impl.Expr) { e.C = append([]impl.Clause{{X: intX(1)}}, e.C...) },
		} {
			other := wholeX()
			if !impl.SameExpr(base, other) || !impl.SameExpr(other, base) {
				t.Fatal("two of the same are not")
			}
			change(placesX(&other)[at])
			if impl.SameExpr(base, other) || impl.SameExpr(other, base) {
				t.Errorf("change %d of %d is not seen", i, at)
			}
			if !impl.SameExpr(other, plainCopy(other)) {
				t.Errorf("change %d of %d: not the same as its copy", i, at)
			}
		}
	}
}

func TestSameExprPairs(t *testing.T) {
	one, two := intX(1), intX(2)
	l := []impl.Expr{
		{}, one, two, atomX("a"), varX("A"), varX("_"), tupleX(), listX(), tupleX(one), listX(one), tupleX(one, two), tupleX(two, one), tupleX(tupleX(one), two), tupleX(tupleX(one, two)), tupleX(one, tupleX(two)),
		consX(one, two), listX(one, two), opX("+", one, two), opX("-", one, two), opX("+", two, one), callX("f"), callX("g"), callX("f", one), callX("f", one, two), callX("f", tupleX(one, two)),
		caseX(one, clauseX(one, two)), caseX(one, clauseX(two, one)), caseX(two, clauseX(one, two)), caseX(one, clauseX(one, two), clauseX(one, two)), caseX(one, clauseX(one, two), clauseX(two, one)), caseX(one, clauseX(two, one), clauseX(one, two)),
		caseX(one), {K: impl.XCase, C: clausesX(1)}, {K: impl.XCase}, {K: impl.XInt, N: 1, S: "a"}, {K: impl.XAtom, S: "a", N: 1}, {K: impl.XInt, N: 1, E: timesX(1, one)}, {K: impl.XInt, N: 1, C: clausesX(1)}, {K: 99}, {K: 99, N: 1}, {K: 99, S: "a"}, {K: 99, E: timesX(1, one)},
	}
	for i := range l {
		for k := range l {
			if same := impl.SameExpr(l[i], plainCopy(l[k])); same != (i == k) || same != plainSame(l[i], l[k]) {
				t.Errorf("%+v and %+v: %v", l[i], l[k], same)
			}
		}
	}
	r := rand.New(rand.NewSource(7))
	for range 20000 {
		a := mixedX(r, 1+r.Intn(5), false)
		b := spoiltX(r, a)
		if impl.SameExpr(a, b) != plainSame(a, b) || !impl.SameExpr(a, plainCopy(a)) {
			t.Fatalf("%+v and %+v: %v", a, b, impl.SameExpr(a, b))
		}
	}
}

// spoilX overwrites all that an expression holds, and the room behind its lists.
func spoilX(e *impl.Expr) {
	for i := range e.E {
		spoilX(&e.E[i])
	}
	for i := range e.C {
		spoilX(&e.C[i].P)
		spoilX(&e.C[i].X)
	}
	for i := range e.E[:cap(e.E)] {
		e.E[:cap(e.E)][i] = impl.Expr{K: 77, N: 77, S: "spoilt"}
	}
	for i := range e.C[:cap(e.C)] {
		e.C[:cap(e.C)][i] = impl.Clause{P: varX("Spoilt"), X: varX("Spoilt")}
	}
}

// roomyX: an expression whose lists have room behind them, in which stands what is neither read nor written.
func roomyX() (impl.Expr, []impl.Expr, []impl.Clause) {
	parts := []impl.Expr{varX("B"), varX("C"), varX("Behind"), {K: 99}}
	clauses := []impl.Clause{clauseX(varX("C"), tupleX(varX("C"), varX("D"))), clauseX(varX("Q"), varX("Behind")), {}}
	return caseX(impl.Expr{K: impl.XTuple, E: parts[:2]}, clauses[:1]...), parts, clauses
}

func TestExprCallsLeaveArgumentsAlone(t *testing.T) {
	e, parts, clauses := roomyX()
	_, keptParts, keptClauses := roomyX()
	if !impl.ExprOk(e) || impl.PatOk(e) || !impl.PatOk(e.E[0]) || !impl.SameExpr(e, plainCopy(e)) {
		t.Error("what is behind a list is minded")
	}
	tells(t, "VarsOf", impl.VarsOf(e), "B C")
	tells(t, "FreeOf", impl.FreeOf(e), "B C D")
	pat := impl.Expr{K: impl.XList, E: []impl.Expr{varX("Z"), varX("A"), varX("M")}}
	impl.PatOk(pat)
	impl.ExprOk(caseX(intX(1), clauseX(pat, intX(1))))
	tells(t, "VarsOf", impl.VarsOf(pat), "Z A M")
	whole := impl.Expr{E: parts, C: clauses}
	if !plainSame(whole, impl.Expr{E: keptParts, C: keptClauses}) {
		t.Error("a call wrote into its argument, or behind it")
	}
}

func TestNamesAreNewMemory(t *testing.T) {
	e, _, _ := roomyX()
	vars, free, again, freeAgain := impl.VarsOf(e), impl.FreeOf(e), impl.VarsOf(e), impl.FreeOf(e)
	for _, l := range [][]string{vars, free} {
		for i := range l[:cap(l)] {
			l[:cap(l)][i] = "spoilt"
		}
	}
	kept, _, _ := roomyX()
	if !plainSame(e, kept) {
		t.Error("an answer shares memory with its argument")
	}
	spoilX(&e)
	tells(t, "VarsOf, behind", again, "B C")
	tells(t, "FreeOf, behind", freeAgain, "B C D")
}

// TestNamesShareNoText: a text over bytes that change shows what an answer holds on to.
func TestNamesShareNoText(t *testing.T) {
	b := []byte("AbcXyz")
	first, second := unsafe.String(&b[0], 3), unsafe.String(&b[3], 3)
	e := caseX(tupleX(varX(first), varX(second), varX(first)), clauseX(varX(first), tupleX(varX(first), varX("Q"))))
	vars, free := impl.VarsOf(e), impl.FreeOf(e)
	impl.ExprOk(e)
	if string(b) != "AbcXyz" {
		t.Error("a name was written into")
	}
	overwrite(b)
	tells(t, "VarsOf", vars, "Abc Xyz Abc")
	tells(t, "FreeOf", free, "Abc Xyz Q")
}

func nameNo(i int) string { return "N" + strconv.Itoa(i) }

// TestExprsHaveNoLimit: what is asked of any expression is told however deep it is, and each name is another one.
func TestExprsHaveNoLimit(t *testing.T) {
	const deep = 1100000
	build := func(last string) impl.Expr {
		e := tupleX(varX(last))
		for i := range deep {
			e = impl.Expr{K: impl.XList, E: []impl.Expr{varX(nameNo(i % 1000)), e}}
		}
		return e
	}
	x, y := build("Last"), build("Other")
	if l := impl.VarsOf(x); len(l) != deep+1 || l[0] != nameNo((deep-1)%1000) || l[deep] != "Last" {
		t.Error(len(l), "names")
	}
	if l := impl.FreeOf(x); len(l) != 1001 || l[1000] != "Last" {
		t.Error(len(l), "free names")
	}
	if impl.SameExpr(x, y) || !impl.SameExpr(x, build("Last")) {
		t.Error("unlike", deep, "deep")
	}
	if impl.ExprOk(x) || impl.PatOk(x) {
		t.Error("right,", deep, "deep")
	}
}

// TestDeepClauses: each clause binds another name, and the innermost expression asks for all.
func TestDeepClauses(t *testing.T) {
	const deep = 60000
	for _, free := range []int{-1, 0, 1, deep / 2, deep - 1} {
		inner := make([]impl.Expr, deep)
		for i := range inner {
			inner[i] = varX(nameNo(i))
		}
		e := impl.Expr{K: impl.XList, E: inner}
		want := ""
		for i := range deep {
			if i == free {
				e, want = caseX(intX(1), clauseX(varX("_"), e)), nameNo(i)
				continue
			}
			e = caseX(intX(1), clauseX(tupleX(varX(nameNo(i))), e))
		}
		tells(t, "FreeOf", impl.FreeOf(e), want)
		tells(t, "FreeOf, twice", impl.FreeOf(tupleX(e, varX("Z"), e, varX(nameNo(7)))), strings.Join([]string{want, "Z", "N7"}, " "))
		if impl.ExprOk(e) || !impl.SameExpr(e, e) || len(impl.VarsOf(e)) != 0 {
			t.Error("deep clauses")
		}
	}
}

func TestWideExprsHaveNoLimit(t *testing.T) {
	const many = 1000001
	row := timesX(many, intX(1))
	row[0], row[many-2], row[many-1] = varX("A"), varX("B"), varX("A")
	other := slices.Clone(row)
	other[many-1] = varX("C")
	x, y := impl.Expr{K: impl.XList, E: row}, impl.Expr{K: impl.XList, E: other}
	tells(t, "VarsOf", impl.VarsOf(x), "A B A")
	tells(t, "FreeOf", impl.FreeOf(y), "A B C")
	if impl.SameExpr(x, y) || !impl.SameExpr(x, impl.Expr{K: impl.XList, E: slices.Clone(row)}) || impl.ExprOk(x) || impl.PatOk(x) {
		t.Error("the last one does not count")
	}
	clauses := slices.Repeat([]impl.Clause{clauseX(varX("A"), varX("A"))}, 100001)
	clauses[100000] = clauseX(varX("B"), varX("A"))
	e := impl.Expr{K: impl.XCase, E: []impl.Expr{varX("C")}, C: clauses}
	tells(t, "FreeOf of clauses", impl.FreeOf(e), "C A")
	less := e
	less.C = clauses[:100000]
	tells(t, "FreeOf of clauses but one", impl.FreeOf(less), "C")
	if impl.SameExpr(e, less) || !impl.SameExpr(e, plainCopy(e)) || impl.ExprOk(e) {
		t.Error("the last clause does not count")
	}
}

// doubledX: the innermost in a list twice, that in a list twice .., so many times around; each list is there once, and shared.
func doubledX(times int, inner impl.Expr) impl.Expr {
	for range times {
		inner = listX(inner, inner)
	}
	return inner
}

// doubledCase: the innermost as X of two clauses that bind one name each, that in two clauses again ..; shared likewise.
func doubledCase(times int, a string, b string, inner impl.Expr) impl.Expr {
	for range times {
		inner = caseX(intX(1), clauseX(varX(a), inner), clauseX(varX(b), inner))
	}
	return inner
}

// TestExprsThatShareOften: far too great to go through, but with an end.
func TestExprsThatShareOften(t *testing.T) {
	a, b := tupleX(varX("A"), varX("B")), tupleX(varX("B"), varX("A"))
	for _, times := range []int{3, 30, 62, 64, 200, 2000} {
		x, same, unlike := doubledX(times, a), doubledX(times, a), doubledX(times, b)
		tells(t, "FreeOf", impl.FreeOf(x), "A B")
		tells(t, "FreeOf, the other first", impl.FreeOf(listX(varX("C"), unlike, x)), "C B A")
		tells(t, "VarsOf of no names", impl.VarsOf(doubledX(times, intX(1))), "")
		if !impl.SameExpr(x, same) || impl.SameExpr(x, unlike) || impl.SameExpr(x, doubledX(times+1, a)) || impl.SameExpr(listX(x, listX(x, same)), listX(x, listX(x, unlike))) {
			t.Error(times, "around: same")
		}
		if ok := impl.ExprOk(x); ok != (times == 3) || impl.PatOk(x) {
			t.Error(times, "around: right", ok)
		}
		tells(t, "FreeOf of a case", impl.FreeOf(doubledCase(times, "A", "A", a)), "B")
		tells(t, "FreeOf of a case of two names", impl.FreeOf(doubledCase(times, "A", "B", a)), "B A")
		tells(t, "FreeOf of a case of others", impl.FreeOf(doubledCase(times, "C", "D", a)), "A B")
		tells(t, "FreeOf of a pattern", impl.FreeOf(caseX(intX(1), clauseX(doubledX(times, varX("A")), a))), "B")
		x, same, unlike = doubledCase(times, "A", "B", a), doubledCase(times, "A", "B", a), doubledCase(times, "A", "B", b)
		if !impl.SameExpr(x, same) || impl.SameExpr(x, unlike) || impl.SameExpr(x, doubledCase(times, "A", "C", a)) {
			t.Error(times, "around: same case")
		}
	}
}

// TestVarsOfSharedLists: a list that stands at several places is told at each of them.
func TestVarsOfSharedLists(t *testing.T) {
	inner := tupleX(varX("A"), varX("B"))
	tells(t, "twice", impl.VarsOf(tupleX(inner, varX("C"), inner)), "A B C A B")
	tells(t, "in each other", impl.VarsOf(tupleX(inner, listX(varX("C"), inner), inner, listX(listX(inner)))), "A B C A B A B A B")
	const many, each = 2001, 2000
	wide := impl.Expr{K: impl.XList, E: timesX(many, impl.Expr{K: impl.XList, E: timesX(each, varX("A"))})}
	if l := impl.VarsOf(wide); len(l) != many*each || l[0] != "A" || l[many*each-1] != "A" {
		t.Error(len(l), "names, not", many*each)
	}
	if l := impl.VarsOf(doubledX(20, inner)); len(l) != 2<<20 || l[2<<20-1] != "B" || l[2<<20-2] != "A" {
		t.Error(len(l), "names, not", 2<<20)
	}
	row := []impl.Expr{varX("A"), varX("B"), varX("C")}
	pieces := tupleX(impl.Expr{K: impl.XList, E: row[:2]}, impl.Expr{K: impl.XList, E: row}, impl.Expr{K: impl.XList, E: row[1:]}, impl.Expr{K: impl.XList, E: row[:1]})
	tells(t, "pieces", impl.VarsOf(pieces), "A B A B C B C A")
	tells(t, "pieces, free", impl.FreeOf(caseX(intX(1), clauseX(varX("A"), pieces))), "B C")
	if l := impl.VarsOf(doubledX(100, inner)); len(l) < 2 || l[0] != "A" || l[1] != "B" {
		t.Error(len(l), "names of what no memory would hold")
	}
}

// sharedX: expressions that hold earlier ones, in lists that are one; few enough to go through.
func sharedX(r *rand.Rand, count int) impl.Expr {
	names := []string{"A", "B", "C", "D", "E", "F"}
	l := []impl.Expr{varX("A"), varX("B"), varX("C"), varX("D"), varX("E"), tupleX(varX("F"), varX("A"))}
	pick := func() impl.Expr { return l[max(0, len(l)-1-r.Intn(5))] }
	for range count {
		if r.Intn(3) == 0 {
			l = append(l, listX(pick(), l[r.Intn(6)]))
			continue
		}
		e := caseX(l[r.Intn(6)])
		for range 1 + r.Intn(2) {
			e.C = append(e.C, clauseX(varX(names[r.Intn(6)]), pick()))
		}
		l = append(l, e)
	}
	return l[len(l)-1]
}

// TestFreeOfSharedLists: what was bound where a list was met first may be free where it is met again.
func TestFreeOfSharedLists(t *testing.T) {
	inner := tupleX(varX("A"), varX("B"), varX("C"))
	bind := func(names ...string) impl.Clause {
		var l []impl.Expr
		for _, name := range names {
			l = append(l, varX(name))
		}
		return clauseX(impl.Expr{K: impl.XTuple, E: l}, inner)
	}
	for _, x := range []struct {
		clauses []impl.Clause
		want    string
	}{
		{[]impl.Clause{bind("A", "B", "C")}, ""},
		{[]impl.Clause{bind("A", "B", "C"), bind("C", "B", "A")}, ""},
		{[]impl.Clause{bind("A"), bind("B")}, "B C A"},
		{[]impl.Clause{bind("A", "B"), bind("B", "C")}, "C A"},
		{[]impl.Clause{bind("A", "B", "C"), bind("B", "C"), bind("A", "C"), bind("A", "B")}, "A B C"},
		{[]impl.Clause{bind("A", "B", "C"), bind("C"), bind("A", "B", "C")}, "A B"},
		{[]impl.Clause{bind("A", "B"), bind("A", "C"), bind("A")}, "C B"},
		{[]impl.Clause{bind("A", "B"), bind("A", "C"), bind()}, "C B A"},
		{[]impl.Clause{bind("D"), bind("A")}, "A B C"},
	} {
		tells(t, "FreeOf", impl.FreeOf(caseX(intX(1), x.clauses...)), x.want)
	}
	row := []impl.Clause{clauseX(varX("A"), inner), clauseX(varX("B"), tupleX(varX("D"), inner)), clauseX(varX("C"), varX("E"))}
	piece := func(l []impl.Clause) impl.Expr { return caseX(intX(1), l...) }
	tells(t, "FreeOf pieces", impl.FreeOf(tupleX(piece(row[:1]), piece(row[:2]), piece(row))), "B C D A E")
	tells(t, "FreeOf pieces, the longest first", impl.FreeOf(tupleX(piece(row[1:]), piece(row), piece(row[:1]))), "D A C E B")
	r := rand.New(rand.NewSource(8))
	for range 20000 {
		e := sharedX(r, 1+r.Intn(12))
		if got, want := impl.FreeOf(e), plainFree(e); !slices.Equal(got, want) {
			t.Fatalf("%+v: %v, not %v", e, got, want)
		}
		if got, want := impl.VarsOf(e), plainVars(e); !slices.Equal(got, want) {
			t.Fatalf("%+v: %v, not %v", e, got, want)
		}
		if !impl.SameExpr(e, plainCopy(e)) {
			t.Fatalf("%+v is not the same as its copy", e)
		}
	}
}

// ringX: expressions that hold each other at random, so that most are without an end.
func ringX(r *rand.Rand, count int) []impl.Expr {
	names := []string{"A", "B", "C", "D"}
	l := make([]impl.Expr, count)
	for i := range l {
		l[i] = impl.Expr{K: impl.XCase, E: make([]impl.Expr, 2), C: make([]impl.Clause, 1+r.Intn(2))}
	}
	for i := range l {
		l[i].E[0] = varX(names[r.Intn(4)])
		l[i].E[1] = l[r.Intn(count)]
		for k := range l[i].C {
			l[i].C[k] = clauseX(tupleX(varX(names[r.Intn(4)]), varX(names[r.Intn(4)])), l[r.Intn(count)])
		}
	}
	return l
}

// freeOnWay: whether a name is come to without going through a clause that binds it.
func freeOnWay(e *impl.Expr, name string, met map[*impl.Expr]bool) bool {
	if e.K == impl.XVar {
		return e.S == name
	}
	if met[&e.E[0]] {
		return false
	}
	met[&e.E[0]] = true
	for i := range e.E {
		if freeOnWay(&e.E[i], name, met) {
			return true
		}
	}
	for i := range e.C {
		if !slices.Contains(plainVars(e.C[i].P), name) && freeOnWay(&e.C[i].X, name, met) {
			return true
		}
	}
	return false
}

func TestExprsWithoutEnd(t *testing.T) {
	r := rand.New(rand.NewSource(9))
	for range 3000 {
		l := ringX(r, 1+r.Intn(6))
		for i := range l {
			var want []string
			for _, name := range []string{"A", "B", "C", "D"} {
				if freeOnWay(&l[i], name, map[*impl.Expr]bool{}) {
					want = append(want, name)
				}
			}
			got := impl.FreeOf(l[i])
			slices.Sort(got)
			if !slices.Equal(got, want) {
				t.Fatalf("free: %v, not %v", got, want)
			}
			if vars := impl.VarsOf(l[i]); len(vars) == 0 || vars[0] != l[i].E[0].S {
				t.Fatal("names", vars)
			}
			if impl.ExprOk(l[i]) || impl.PatOk(l[i]) || !impl.SameExpr(l[i], l[i]) {
				t.Fatal("one without end is right, or unlike itself")
			}
		}
	}
}

func TestSameExprsWithoutEnd(t *testing.T) {
	ring := func(names ...string) impl.Expr {
		l := make([]impl.Expr, len(names))
		for i := range l {
			l[i] = caseX(varX(names[i]), impl.Clause{})
		}
		for i := range l {
			l[i].C[0] = clauseX(varX("P"), l[(i+1)%len(l)])
		}
		return l[0]
	}
	many := strings.Fields(strings.Repeat("A ", 1000))
	for _, x := range []struct {
		a, b impl.Expr
		want bool
	}{
		{ring("A"), ring("A"), true}, {ring("A"), ring("A", "A"), true}, {ring("A", "A", "A"), ring("A", "A"), true}, {ring("A", "B"), ring("A", "B", "A", "B"), true}, {ring("A"), ring(many...), true},
		{ring("A"), ring("B"), false}, {ring("A", "B"), ring("B", "A"), false}, {ring("A", "B"), ring("A", "B", "A"), false}, {ring("A"), ring(append(many, "B")...), false}, {ring("A"), doubledCase(500, "P", "P", varX("A")), false},
	} {
		if impl.SameExpr(x.a, x.b) != x.want || impl.SameExpr(x.b, x.a) != x.want {
			t.Error("same without end, not", x.want)
		}
		if impl.ExprOk(x.a) || impl.PatOk(x.a) || impl.ExprOk(tupleX(intX(1), x.b)) {
			t.Error("one without end is right")
		}
	}
	l := make([]impl.Expr, 100000)
	for i := range l {
		l[i] = impl.Expr{K: impl.XTuple, E: l}
	}
	round := impl.Expr{K: impl.XTuple, E: l}
	if !impl.SameExpr(round, round) || impl.SameExpr(round, listX()) || impl.ExprOk(round) || impl.PatOk(round) || len(impl.VarsOf(round)) != 0 || len(impl.FreeOf(round)) != 0 {
		t.Error("a list that holds itself often")
	}
}
