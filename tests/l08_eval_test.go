package tests

import (
	"cmp"
	"maps"
	"math"
	"math/big"
	"math/rand"
	"slices"
	"strconv"
	"strings"
	"testing"
	"unsafe"

	"loop.example/g00236/impl"
)

// plainOrder: the order of chapter 2 once more, as another witness: below 0 where a is less.
func plainOrder(a impl.Term, b impl.Term) int {
	if a.K != b.K {
		return a.K - b.K
	}
	if way := cmp.Or(cmp.Compare(a.N, b.N), cmp.Compare(a.S, b.S)); way != 0 {
		return way
	}
	if a.K == impl.TTuple && len(a.L) != len(b.L) {
		return len(a.L) - len(b.L)
	}
	return slices.CompareFunc(a.L, b.L, plainOrder)
}

// plainOperate: the chapter's words once more, with numbers that have no limit.
func plainOperate(op string, a impl.Term, b impl.Term) (impl.Term, int) {
	n := new(big.Int)
	by := map[string]func(x, y *big.Int) *big.Int{"+": n.Add, "-": n.Sub, "*": n.Mul}[op]
	switch {
	case by == nil && op != "==" && op != "<" || !plainTermOk(a) || !plainTermOk(b):
		return impl.Term{}, impl.EvForm
	case op == "==":
		return atomTerm(strconv.FormatBool(plainOrder(a, b) == 0)), impl.EvGood
	case op == "<":
		return atomTerm(strconv.FormatBool(plainOrder(a, b) < 0)), impl.EvGood
	case a.K != impl.TInt || b.K != impl.TInt:
		return impl.Term{}, impl.EvArith
	}
	if by(big.NewInt(int64(a.N)), big.NewInt(int64(b.N))).CmpAbs(big.NewInt(impl.MaxInt)) > 0 {
		return impl.Term{}, impl.EvArith
	}
	return intTerm(int(n.Int64())), impl.EvGood
}

// plainFault is what the witness of Eval gives up by.
type plainFault int

// plainEval: the chapter's words once more; each clause has a table of names of its own.
func plainEval(m impl.Module, name string, args []impl.Term, fuel int) (x impl.Term, code int) {
	defer func() {
		switch f := recover().(type) {
		case nil:
		case plainFault:
			x, code = impl.Term{}, int(f)
		default:
			panic(f)
		}
	}()
	demand := func(is bool, code int) {
		if !is {
			panic(plainFault(code))
		}
	}
	var call func(name string, args []impl.Term, under int) impl.Term
	var of func(e impl.Expr, bound map[string]impl.Term, under int) impl.Term
	call = func(name string, args []impl.Term, under int) impl.Term {
		demand(under < impl.MaxCalls, impl.EvDeep)
		at := slices.IndexFunc(m.Funs, func(f impl.Fun) bool { return f.Name == name })
		bound := map[string]impl.Term{}
		for i, name := range m.Funs[at].Params {
			bound[name] = args[i]
		}
		return of(m.Funs[at].X, bound, under+1)
	}
	of = func(e impl.Expr, bound map[string]impl.Term, under int) impl.Term {
		demand(fuel > 0, impl.EvFuel)
		fuel--
		var row []impl.Term
		for _, part := range e.E {
			row = append(row, of(part, bound, under))
		}
		x := impl.Term{K: constantTerm(impl.Expr{K: e.K}).K, N: e.N, S: e.S, L: row}
		switch e.K {
		case impl.XVar:
			x = bound[e.S]
		case impl.XCons:
			last := row[len(row)-1]
			demand(last.K == impl.TList, impl.EvArith)
			x = listTerm(slices.Concat(row[:len(row)-1], last.L)...)
		case impl.XOp:
			x, code = plainOperate(e.S, row[0], row[1])
			demand(code == impl.EvGood, code)
		case impl.XCall:
			return call(e.S, row, under)
		case impl.XCase:
			for _, c := range e.C {
				if l, ok := plainMatch(c.P, row[0]); ok {
					inner := maps.Clone(bound)
					for _, b := range l {
						inner[b.Name] = b.T
					}
					return of(c.X, inner, under)
				}
			}
			demand(false, impl.EvMatch)
		}
		demand(plainTermOk(x), impl.EvBig)
		return x
	}
	there := slices.ContainsFunc(m.Funs, func(f impl.Fun) bool { return f.Name == name && len(f.Params) == len(args) })
	demand(plainRight(m) && there && !slices.ContainsFunc(args, func(x impl.Term) bool { return !plainTermOk(x) }) && fuel >= 0 && fuel <= 100000, impl.EvForm)
	return call(name, args, 0), impl.EvGood
}

// operates: what Operate answers is as the witness has it, in memory of its own; it leaves its arguments as they are.
func operates(t *testing.T, op string, a impl.Term, b impl.Term) (impl.Term, int) {
	t.Helper()
	want, wanted := plainOperate(op, a, b)
	kept := plainCopyTerms([]impl.Term{a, b})
	x, code := impl.Operate(op, a, b)
	if code != wanted || !alikeTerms(x, want) {
		t.Fatalf("%+v %s %+v: %d, %+v, not %d, %+v", a, op, b, code, x, wanted, want)
	}
	if !alikeTerms(a, kept[0]) || !alikeTerms(b, kept[1]) {
		t.Fatalf("%+v %s %+v: Operate wrote into its argument", kept[0], op, kept[1])
	}
	termsApart(t, "Operate", x, nil, termSpans([]impl.Term{a, b}), textSpan(op))
	return x, code
}

// evals: likewise of Eval.
func evals(t *testing.T, m impl.Module, name string, args []impl.Term, fuel int) (impl.Term, int) {
	t.Helper()
	want, wanted := plainEval(m, name, args, fuel)
	kept, keptArgs := plainCopyModule(m), plainCopyTerms(args)
	x, code := impl.Eval(m, name, args, fuel)
	if code != wanted || !alikeTerms(x, want) {
		t.Fatalf("%s of %+v in %q with %d: %d, %+v, not %d, %+v", name, args, plainModuleText(m), fuel, code, x, wanted, want)
	}
	if !plainSameModule(m, kept) || !alikeTerms(listTerm(args...), listTerm(keptArgs...)) {
		t.Fatalf("%s of %+v in %q: Eval wrote into its argument", name, keptArgs, plainModuleText(kept))
	}
	termsApart(t, "Eval", x, nil, spansOf(m), termSpans(args), textSpan(name))
	return x, code
}

// staysSame: what a call came to, it comes to with more fuel, and renamed, and trimmed; what had too little fuel has so with less.
func staysSame(t *testing.T, m impl.Module, name string, args []impl.Term, fuel int) {
	t.Helper()
	x, code := impl.Eval(m, name, args, fuel)
	same := func(what string, m impl.Module, name string, fuel int) {
		t.Helper()
		if y, other := impl.Eval(m, name, args, fuel); other != code || !alikeTerms(x, y) {
			t.Fatalf("%s of %+v in %q with %d, %s: %d, %+v, not %d, %+v", name, args, plainModuleText(m), fuel, what, other, y, code, x)
		}
	}
	same("once more", m, name, fuel)
	switch code {
	case impl.EvForm:
		return
	case impl.EvFuel:
		same("with none", m, name, 0)
		same("with less", m, name, fuel/2)
	default:
		same("with one more", m, name, min(fuel+1, 100000))
		same("with more", m, name, min(fuel+fuel/2+3, 100000))
		same("with most", m, name, 100000)
	}
	for _, f := range m.Funs {
		own, ok := impl.Rename(m, f.Name, "renamed_one")
		if !ok {
			t.Fatalf("%q: %s is not renamed", plainModuleText(m), f.Name)
		}
		if f.Name != name {
			same("another renamed", own, name, fuel)
			continue
		}
		same("renamed", own, "renamed_one", fuel)
		if y, other := impl.Eval(own, name, args, fuel); other != impl.EvForm || !alikeTerms(y, impl.Term{}) {
			t.Fatalf("%q: %s is there still", plainModuleText(own), name)
		}
	}
	own, ok := impl.Trim(m, name)
	if !ok {
		t.Fatalf("%q: not trimmed to %s", plainModuleText(m), name)
	}
	same("trimmed", own, name, fuel)
}

// came: what an answer came to as a word: the text of a term, or a fault's name.
func came(x impl.Term, code int) string {
	if code == impl.EvGood {
		return impl.TermText(x)
	}
	if !alikeTerms(x, impl.Term{}) {
		return "a fault with a term"
	}
	return []string{"", "FORM", "MATCH", "ARITH", "BIG", "DEEP", "FUEL"}[code]
}

// comesBy: the first function of a module comes to this with just so much fuel, and to nothing with any less; so it does when it is compiled.
func comesBy(t *testing.T, m impl.Module, args []impl.Term, fuel int, want string) {
	t.Helper()
	name := m.Funs[0].Name
	for less := range fuel + 1 {
		wanted := want
		if less < fuel {
			wanted = "FUEL"
		}
		if less > 8 && less < fuel-8 {
			continue
		}
		if got := came(evals(t, m, name, args, less)); got != wanted {
			t.Errorf("%s of %+v in %q with %d: %s, not %s", name, args, plainModuleText(m), less, got, wanted)
			return
		}
	}
	staysSame(t, m, name, args, fuel)
	staysSame(t, m, name, args, fuel-1)
	runsAs(t, m, name, args, want)
}

// comes: likewise, of texts.
func comes(t *testing.T, text string, args string, fuel int, want string) {
	t.Helper()
	comesBy(t, moduleOf(t, text), termFrom(t, "["+args+"]").L, fuel, want)
}

func TestEvalCodes(t *testing.T) {
	codes := []int{impl.EvGood, impl.EvForm, impl.EvMatch, impl.EvArith, impl.EvBig, impl.EvDeep, impl.EvFuel}
	if !slices.Equal(codes, []int{0, 1, 2, 3, 4, 5, 6}) || impl.MaxCalls != 40 {
		t.Error(codes, impl.MaxCalls)
	}
}

func TestOperate(t *testing.T) {
	for _, x := range []struct{ a, op, b, want string }{
		{"2", "+", "3", "5"}, {"2", "-", "3", "-1"}, {"2", "*", "3", "6"}, {"0", "+", "0", "0"}, {"0", "-", "0", "0"}, {"0", "*", "0", "0"}, {"7", "*", "0", "0"}, {"0", "*", "7", "0"},
		{"(0 - 2)", "+", "3", "1"}, {"(0 - 2)", "-", "3", "-5"}, {"(0 - 2)", "*", "3", "-6"}, {"2", "*", "(0 - 3)", "-6"}, {"(0 - 2)", "*", "(0 - 3)", "6"}, {"2", "-", "(0 - 3)", "5"}, {"3", "-", "2", "1"},
		{"a", "+", "1", "ARITH"}, {"1", "+", "a", "ARITH"}, {"a", "+", "b", "ARITH"}, {"1", "-", "pid(1)", "ARITH"}, {"pid(1)", "-", "1", "ARITH"}, {"pid(1)", "-", "pid(1)", "ARITH"}, {"1", "*", "{}", "ARITH"}, {"{1}", "*", "1", "ARITH"}, {"1", "+", "[]", "ARITH"}, {"[1]", "+", "1", "ARITH"}, {"[1]", "-", "[1]", "ARITH"}, {"{}", "*", "[]", "ARITH"},
		{"1", "==", "1", "true"}, {"1", "==", "2", "false"}, {"1", "<", "2", "true"}, {"2", "<", "1", "false"}, {"1", "<", "1", "false"}, {"(0 - 5)", "<", "1", "true"}, {"(0 - 5)", "==", "5", "false"}, {"(0 - 5)", "<", "(0 - 6)", "false"},
		{"a", "==", "a", "true"}, {"a", "==", "b", "false"}, {"a", "<", "b", "true"}, {"b", "<", "a", "false"}, {"a", "<", "a", "false"}, {"a", "<", "aa", "true"}, {"b", "<", "aa", "false"}, {"true", "==", "true", "true"}, {"true", "==", "false", "false"},
		{"1", "<", "a", "true"}, {"a", "<", "1", "false"}, {"9", "==", "pid(9)", "false"}, {"9", "<", "pid(0)", "true"}, {"pid(0)", "<", "9", "false"}, {"a", "<", "pid(0)", "true"}, {"pid(9)", "<", "{}", "true"}, {"{9, 9}", "<", "[]", "true"}, {"[]", "<", "{}", "false"}, {"[]", "==", "{}", "false"},
		{"pid(3)", "==", "pid(3)", "true"}, {"pid(3)", "<", "pid(4)", "true"}, {"pid(4)", "<", "pid(3)", "false"}, {"{}", "==", "{}", "true"}, {"{}", "<", "{}", "false"}, {"{1}", "<", "{1, 1}", "true"}, {"{9}", "<", "{1, 1}", "true"}, {"[9]", "<", "[1, 1]", "false"}, {"[1]", "<", "[1, 1]", "true"}, {"[1, 1]", "<", "[1]", "false"}, {"[1, 2]", "==", "[1, 2]", "true"}, {"{1, [a]}", "==", "{1, [b]}", "false"}, {"{1, [a]}", "<", "{1, [b]}", "true"},
	} {
		if got := came(operates(t, x.op, termFrom(t, x.a), termFrom(t, x.b))); got != x.want {
			t.Errorf("%s %s %s: %s, not %s", x.a, x.op, x.b, got, x.want)
		}
	}
}

// TestOperateForm: an op that is none, and terms that are not right, whatever else is wrong.
func TestOperateForm(t *testing.T) {
	ops := []string{"+", "-", "*", "==", "<"}
	for _, op := range []string{"", " ", "/", "=", "!=", ">", "<=", "=<", ">=", "++", "--", "+ ", " +", "+\x00", "<<", "===", "->", "|", ",", "(", "and", "a", "X", "1", "==\n", "−", strings.Repeat("+", 1000)} {
		for _, x := range []impl.Term{intTerm(1), atomTerm("a"), tupleTerm(intTerm(1)), {}} {
			if got := came(operates(t, op, x, x)); got != "FORM" {
				t.Errorf("%q: %s", op, got)
			}
			if got := came(operates(t, op, intTerm(2), x)); got != "FORM" {
				t.Errorf("2 %q: %s", op, got)
			}
		}
	}
	for _, wrong := range wrongTerms() {
		for _, x := range []impl.Term{wrong, listTerm(wrong), tupleTerm(intTerm(1), wrong)} {
			for _, op := range ops {
				for _, y := range []impl.Term{intTerm(1), atomTerm("a"), listTerm(), wrong} {
					if a, b := came(operates(t, op, x, y)), came(operates(t, op, y, x)); a != "FORM" || b != "FORM" {
						t.Errorf("%+v %s %+v: %s, %s", x, op, y, a, b)
					}
				}
			}
		}
	}
	for _, x := range termForms {
		for _, y := range termForms {
			for _, op := range ops {
				if got := came(operates(t, op, x.t, y.t)); got == "FORM" {
					t.Errorf("%s %s %s: %s", x.text, op, y.text, got)
				}
			}
		}
	}
	// As great as terms may be.
	for _, x := range []impl.Term{countedTerm(300), nestedTerm(impl.TList, 7, intTerm(1)), listTerm(timesTerm(60, intTerm(1))...)} {
		if a, b, c := came(operates(t, "==", x, x)), came(operates(t, "<", x, x)), came(operates(t, "+", x, intTerm(1))); a != "true" || b != "false" || c != "ARITH" {
			t.Errorf("%+v: %s, %s, %s", x, a, b, c)
		}
	}
}

func TestOperateLimits(t *testing.T) {
	const most = impl.MaxInt
	for _, x := range []struct {
		a    int
		op   string
		b    int
		want string
	}{
		{most, "+", 0, "1000000000000"}, {most - 1, "+", 1, "1000000000000"}, {most, "+", 1, "ARITH"}, {1, "+", most, "ARITH"}, {most, "+", most, "ARITH"}, {-most, "+", -1, "ARITH"}, {-most, "+", -most, "ARITH"}, {1 - most, "+", -1, "-1000000000000"}, {most, "+", -most, "0"}, {most, "+", -1, "999999999999"},
		{most, "-", 0, "1000000000000"}, {most - 1, "-", -1, "1000000000000"}, {most, "-", -1, "ARITH"}, {-most, "-", 1, "ARITH"}, {1 - most, "-", 1, "-1000000000000"}, {most, "-", most, "0"}, {most, "-", -most, "ARITH"}, {-most, "-", most, "ARITH"}, {0, "-", most, "-1000000000000"}, {-1, "-", most, "ARITH"}, {0, "-", -most, "1000000000000"}, {1, "-", -most, "ARITH"},
		{most, "*", 1, "1000000000000"}, {most, "*", -1, "-1000000000000"}, {-most, "*", -1, "1000000000000"}, {-1, "*", most, "-1000000000000"}, {most, "*", 0, "0"}, {0, "*", -most, "0"}, {most, "*", 2, "ARITH"}, {2, "*", most, "ARITH"}, {-2, "*", most, "ARITH"}, {most, "*", -2, "ARITH"},
		{1000000, "*", 1000000, "1000000000000"}, {-1000000, "*", 1000000, "-1000000000000"}, {1000000, "*", 1000001, "ARITH"}, {1000001, "*", 1000000, "ARITH"}, {-1000001, "*", 1000000, "ARITH"}, {1000000, "*", -1000001, "ARITH"}, {-1000000, "*", -1000001, "ARITH"}, {999999, "*", 1000001, "999999999999"}, {3, "*", 333333333333, "999999999999"}, {3, "*", 333333333334, "ARITH"}, {500000000000, "*", 2, "1000000000000"}, {500000000001, "*", 2, "ARITH"}, {2, "*", -500000000001, "ARITH"},
		// What 64 bits would hold of these looks right.
		{1 << 32, "*", 1 << 32, "ARITH"}, {1 << 39, "*", 1 << 25, "ARITH"}, {1 << 32, "*", 1<<32 + 1, "ARITH"}, {1<<32 + 1, "*", 1 << 32, "ARITH"}, {-1 << 32, "*", 1 << 32, "ARITH"}, {1 << 32, "*", -1<<32 - 1, "ARITH"}, {-1 << 32, "*", -1 << 32, "ARITH"}, {1 << 39, "*", 1<<25 + 1, "ARITH"}, {1 << 32, "*", 1 << 31, "ARITH"}, {1 << 36, "*", 1 << 28, "ARITH"},
		{most, "*", most, "ARITH"}, {-most, "*", most, "ARITH"}, {most, "*", -most, "ARITH"}, {-most, "*", -most, "ARITH"},
		{most, "==", most, "true"}, {most, "==", most - 1, "false"}, {most, "==", -most, "false"}, {-most, "<", most, "true"}, {most, "<", -most, "false"}, {most - 1, "<", most, "true"}, {most, "<", most, "false"},
		{most + 1, "-", 1, "FORM"}, {1, "+", -most - 1, "FORM"}, {math.MaxInt, "*", 0, "FORM"}, {0, "*", math.MinInt, "FORM"}, {math.MinInt, "*", -1, "FORM"}, {most + 1, "==", most + 1, "FORM"}, {0, "<", most + 1, "FORM"},
	} {
		if got := came(operates(t, x.op, intTerm(x.a), intTerm(x.b))); got != x.want {
			t.Errorf("%d %s %d: %s, not %s", x.a, x.op, x.b, got, x.want)
		}
	}
	r := rand.New(rand.NewSource(81))
	number := func() int {
		n := r.Intn(1 << (1 + r.Intn(41)))
		return min(n, most) * (1 - 2*r.Intn(2))
	}
	for range 50000 {
		a, b := number(), number()
		if r.Intn(3) == 0 && a != 0 {
			b = most/a + r.Intn(5) - 2
		}
		for _, op := range []string{"+", "-", "*", "==", "<"} {
			operates(t, op, intTerm(a), intTerm(max(min(b, most), -most)))
		}
	}
	terms := append(risingTerms(), randomTerms(82, 60, 4)...)
	for _, a := range terms {
		for _, b := range terms {
			for _, op := range []string{"+", "*", "==", "<"} {
				operates(t, op, a, b)
			}
		}
	}
}

func TestEvalForm(t *testing.T) {
	formed := func(what string, m impl.Module, name string, args []impl.Term, fuel int, is bool) {
		t.Helper()
		if got := came(evals(t, m, name, args, fuel)); (got != "FORM") != is {
			t.Errorf("%s: %s", what, got)
		}
	}
	m := moduleOf(t, "f() -> 1. g(A) -> A. h(A, B) -> {A, B}. k(A, B, C, D) -> D.")
	// The name, and how many args there are.
	many := map[string]int{"f": 0, "g": 1, "h": 2, "k": 4}
	for _, name := range []string{"f", "g", "h", "k", "", "F", "A", "ff", "f ", "g()", "z", "case", "end", "k1"} {
		for n := range 7 {
			want, there := many[name]
			formed(name+" of "+strconv.Itoa(n), m, name, timesTerm(n, intTerm(1)), 100, there && want == n)
		}
	}
	formed("f of very many", m, "f", timesTerm(100000, intTerm(1)), 100, false)
	formed("an empty list", m, "f", []impl.Term{}, 100, true)
	formed("no functions", impl.Module{}, "f", nil, 100, false)
	formed("no functions, no name", impl.Module{Funs: []impl.Fun{}}, "", nil, 100, false)
	// Fuel.
	for _, fuel := range []int{math.MinInt, -100000, -2, -1, 0, 1, 2, 99999, 100000, 100001, 100002, 1 << 20, 1 << 32, math.MaxInt} {
		formed("fuel "+strconv.Itoa(fuel), m, "h", timesTerm(2, intTerm(1)), fuel, fuel >= 0 && fuel <= 100000)
	}
	if got := came(evals(t, m, "f", nil, 0)); got != "FUEL" {
		t.Error("no fuel:", got)
	}
	if got := came(evals(t, m, "f", nil, 100000)); got != "1" {
		t.Error("most fuel:", got)
	}
	// Args that are not right, also where nothing asks for them, and with too little fuel for anything.
	for _, wrong := range wrongTerms() {
		for _, x := range []impl.Term{wrong, tupleTerm(wrong)} {
			for at := range 4 {
				args := timesTerm(4, intTerm(1))
				args[at] = x
				formed("a wrong arg", m, "k", args, 100, false)
				formed("a wrong arg", m, "k", args, 0, false)
			}
			formed("a wrong arg", m, "g", []impl.Term{x}, 100, false)
			formed("a wrong arg, and too many", m, "f", []impl.Term{x}, 100, false)
		}
	}
	for _, x := range termForms {
		if y, code := evals(t, m, "g", []impl.Term{x.t}, 1); code != impl.EvGood || !alikeTerms(y, x.t) {
			t.Errorf("%s: %d, %+v", x.text, code, y)
		}
	}
}

// TestEvalWrongModules: what is not right anywhere comes to nothing, be it reached or not.
func TestEvalWrongModules(t *testing.T) {
	for _, s := range notRightTexts() {
		for _, name := range []string{"f", "g", "z"} {
			for many := range 4 {
				if got := came(evals(t, moduleOf(t, s), name, timesTerm(many, intTerm(1)), 100)); got != "FORM" {
					t.Errorf("%s of %d in %q: %s", name, many, s, got)
				}
			}
		}
	}
	good := funX("good", varX("A"), "A")
	for _, f := range wrongFuns() {
		for _, m := range []impl.Module{moduleX(f, good), moduleX(good, f)} {
			if got := came(evals(t, m, "good", []impl.Term{intTerm(1)}, 100)); got != "FORM" {
				t.Errorf("beside %+v: %s", f, got)
			}
			if got := came(evals(t, m, f.Name, timesTerm(len(f.Params), intTerm(1)), 100)); got != "FORM" {
				t.Errorf("%+v: %s", f, got)
			}
		}
	}
	for _, e := range wrongExprs() {
		for _, x := range append(around(e), e) {
			if m := moduleX(funX("f", x)); !plainRight(m) {
				if got := came(evals(t, m, "f", nil, 100)); got != "FORM" {
					t.Errorf("%+v: %s", x, got)
				}
			}
		}
	}
	var m impl.Module
	for i := range 14 {
		m.Funs = append(m.Funs, funX("f"+strconv.Itoa(i), intX(i)))
		if got := came(evals(t, m, "f0", nil, 100)); (got == "0") != (i < 12) || (got == "FORM") != (i >= 12) {
			t.Errorf("%d functions: %s", i+1, got)
		}
	}
	// More tokens than are read: it is right, so it is evaluated.
	great := moduleOfTokens(t, impl.MaxTokens+1)
	for i := range great.Funs {
		great.Funs[i].Name = "f" + strconv.Itoa(i)
	}
	if plainRight(great) {
		evals(t, great, "f0", timesTerm(len(great.Funs[0].Params), intTerm(1)), 1000)
	}
}

// TestEvalKinds: each kind of expression, and what it takes of fuel.
func TestEvalKinds(t *testing.T) {
	for _, x := range []struct {
		text, args string
		fuel       int
		want       string
	}{
		{"f() -> 0.", "", 1, "0"}, {"f() -> 1000000000000.", "", 1, "1000000000000"}, {"f() -> a.", "", 1, "a"}, {"f() -> " + twentySmall + ".", "", 1, twentySmall}, {"f() -> f.", "", 1, "f"},
		{"f(X) -> X.", "7", 1, "7"}, {"f(X) -> X.", "(0 - 7)", 1, "-7"}, {"f(X) -> X.", "pid(7)", 1, "<7>"}, {"f(X) -> X.", "{a, [1, {}]}", 1, "{a,[1,{}]}"}, {"f(A, B, C, D) -> A.", "1, 2, 3, 4", 1, "1"}, {"f(A, B, C, D) -> D.", "1, 2, 3, 4", 1, "4"}, {"f(A, B, C, D) -> {D, B, C, A, B}.", "1, 2, 3, 4", 6, "{4,2,3,1,2}"},
		{"f() -> {}.", "", 1, "{}"}, {"f() -> {1}.", "", 2, "{1}"}, {"f() -> {a, 2, {}}.", "", 4, "{a,2,{}}"}, {"f() -> {{1, 2}, {{3}}}.", "", 7, "{{1,2},{{3}}}"}, {"f(X) -> {X, X}.", "[1]", 3, "{[1],[1]}"},
		{"f() -> [].", "", 1, "[]"}, {"f() -> [1].", "", 2, "[1]"}, {"f() -> [a, 2, []].", "", 4, "[a,2,[]]"}, {"f(X) -> [X, [X]].", "{}", 4, "[{},[{}]]"},
		{"f() -> [1 | []].", "", 3, "[1]"}, {"f() -> [1, 2 | [3, 4]].", "", 6, "[1,2,3,4]"}, {"f(X) -> [X | X].", "[1, 2]", 3, "[[1,2],1,2]"}, {"f(X) -> [1, 2, 3, 4, 5 | X].", "[]", 7, "[1,2,3,4,5]"}, {"f(X) -> [a | [b | X]].", "[c]", 5, "[a,b,c]"},
		{"f(X) -> [1 | X].", "1", 3, "ARITH"}, {"f(X) -> [1 | X].", "a", 3, "ARITH"}, {"f(X) -> [1 | X].", "pid(1)", 3, "ARITH"}, {"f(X) -> [1 | X].", "{}", 3, "ARITH"}, {"f(X) -> [1 | X].", "{[]}", 3, "ARITH"}, {"f(X) -> [1, 2, 3, 4, 5 | X].", "{1}", 7, "ARITH"}, {"f(X) -> [X | 1].", "[]", 3, "ARITH"},
		{"f() -> (2 + 3).", "", 3, "5"}, {"f() -> (2 - 3).", "", 3, "-1"}, {"f() -> (2 * 3).", "", 3, "6"}, {"f() -> (2 == 3).", "", 3, "false"}, {"f() -> (2 < 3).", "", 3, "true"}, {"f() -> ((1 + 2) * (3 - 4)).", "", 7, "-3"}, {"f(X) -> (X - 1).", "(0 - 7)", 3, "-8"}, {"f(X, Y) -> (X - Y).", "1, 2", 3, "-1"}, {"f(X, Y) -> (X < Y).", "a, pid(1)", 3, "true"}, {"f(X, Y) -> (Y < X).", "a, pid(1)", 3, "false"}, {"f(X) -> (X == {1}).", "{1}", 4, "true"},
		{"f(X) -> (X + 1).", "a", 3, "ARITH"}, {"f(X) -> (1 * X).", "[]", 3, "ARITH"}, {"f(X) -> (X + 1).", "1000000000000", 3, "ARITH"}, {"f(X) -> (X * X).", "4294967296", 3, "ARITH"}, {"f(X) -> (X + 1).", "999999999999", 3, "1000000000000"},
		{"f() -> g(). g() -> 1.", "", 2, "1"}, {"f(X) -> g(X, 2). g(A, B) -> {B, A}.", "1", 6, "{2,1}"}, {"f() -> g(1, 2, 3, 4). g(A, B, C, D) -> [D, C, B, A].", "", 10, "[4,3,2,1]"}, {"f(X) -> g(g(g(X))). g(X) -> {X}.", "1", 10, "{{{1}}}"}, {"f(X) -> g(h(X), h(2)). g(A, B) -> (A - B). h(X) -> (X * 10).", "1", 14, "-10"}, {"f(A, B) -> g(B, A). g(A, B) -> {A, B}.", "1, 2", 6, "{2,1}"},
		{"f(X) -> case X of 1 -> a end.", "1", 3, "a"}, {"f(X) -> case X of 1 -> a end.", "2", 2, "MATCH"}, {"f(X) -> case {X, X} of {A, B} -> [A | [B]] end.", "1", 8, "[1,1]"}, {"f() -> case case 1 of X -> {X, X} end of {A, _} -> A end.", "", 7, "1"},
	} {
		comes(t, x.text, x.args, x.fuel, x.want)
	}
	// The atoms that an operation answers are matched as others.
	comes(t, "f(X) -> case (X < 3) of true -> less; false -> not end.", "2", 5, "less")
	comes(t, "f(X) -> case (X < 3) of true -> less; false -> not end.", "3", 5, "not")
	// Each of the most that an expression may have takes one.
	for _, many := range []int{1, 2, 3, 19, 20} {
		row := strings.TrimSuffix(strings.Repeat("7,", many), ",")
		comes(t, "f() -> {"+row+"}.", "", many+1, "{"+row+"}")
		comes(t, "f() -> ["+row+"].", "", many+1, "["+row+"]")
	}
	for many := 1; many <= 5; many++ {
		row := strings.TrimSuffix(strings.Repeat("7,", many), ",")
		comes(t, "f() -> ["+row+" | []].", "", many+2, "["+row+"]")
	}
	for _, count := range []int{1, 22, 299, 300} {
		e := countedX(count)
		x, code := evals(t, moduleX(funX("f", e)), "f", nil, count)
		if code != impl.EvGood || !alikeTerms(x, constantTerm(e)) {
			t.Errorf("%d in all: %d", count, code)
		}
		comesBy(t, moduleX(funX("f", e)), nil, count, impl.TermText(x))
	}
}

// TestEvalPatternsTakeNoFuel: nor do parameters, nor clauses that are passed over.
func TestEvalPatternsTakeNoFuel(t *testing.T) {
	comes(t, "f(X) -> case X of {} -> 1; {1, 2, {3, [4 | _]}} -> 2; a -> 3; [] -> 4; [_] -> 5; {A, {B}, [C | D]} -> 6 end.", "{1, {2}, [3]}", 3, "6")
	comes(t, "f(A, B, C, D) -> case A of 9 -> {B, B, B}; 8 -> {C, C, C, D}; _ -> 1 end.", "1, 2, 3, 4", 3, "1")
	comes(t, "f(A, B, C, D) -> case A of 9 -> {B, B, B}; 8 -> {C, C, C, D}; _ -> 1 end.", "9, 2, 3, 4", 6, "{2,2,2}")
	comes(t, "f(A, B, C, D) -> case A of 9 -> {B, B, B}; 8 -> {C, C, C, D}; _ -> 1 end.", "8, 2, 3, 4", 7, "{3,3,3,4}")
}

func TestEvalClauses(t *testing.T) {
	six := "f(X) -> case X of 1 -> one; {A} -> {A, A}; {A, B} -> [B, A]; [H | T] -> {T, H}; a -> b; [] -> none end."
	for _, x := range []struct {
		args string
		fuel int
		want string
	}{
		{"1", 3, "one"}, {"{1}", 5, "{1,1}"}, {"{1, 2}", 5, "[2,1]"}, {"[1, 2, 3]", 5, "{[2,3],1}"}, {"[1]", 5, "{[],1}"}, {"a", 3, "b"}, {"[]", 3, "none"},
		{"2", 2, "MATCH"}, {"(0 - 1)", 2, "MATCH"}, {"b", 2, "MATCH"}, {"{}", 2, "MATCH"}, {"{1, 2, 3}", 2, "MATCH"}, {"pid(1)", 2, "MATCH"}, {"pid(0)", 2, "MATCH"},
	} {
		comes(t, six, x.args, x.fuel, x.want)
	}
	// The first of several that match, and none behind it.
	comes(t, "f(X) -> case X of _ -> 1; X -> 2; 1 -> 3 end.", "1", 3, "1")
	comes(t, "f(X) -> case X of Y -> {Y}; _ -> 2; 1 -> 3 end.", "1", 4, "{1}")
	comes(t, "f(X) -> case X of 2 -> 1; Y -> 2; 1 -> 3; _ -> 4 end.", "1", 3, "2")
	comes(t, "f(X) -> case X of {1, A} -> A; {A, 1} -> [A]; {A, B} -> 3 end.", "{1, 1}", 3, "1")
	comes(t, "f(X) -> case X of {1, A} -> A; {A, 1} -> [A]; {A, B} -> 3 end.", "{2, 1}", 4, "[2]")
	comes(t, "f(X) -> case X of {1, A} -> A; {A, 1} -> [A]; {A, B} -> 3 end.", "{2, 2}", 3, "3")
	// A fault of the first that matches is the answer, though others behind it have none.
	comes(t, "f(X) -> case X of 1 -> (a + 1); _ -> 2 end.", "1", 5, "ARITH")
	comes(t, "f(X) -> case X of _ -> case X of 2 -> 2 end; _ -> 2 end.", "1", 4, "MATCH")
	// What is passed over binds nothing, though it matched in part.
	comes(t, "f(X, A) -> case X of {A, 9} -> A; {_, B} -> {A, B} end.", "{1, 2}, 7", 5, "{7,2}")
	comes(t, "f(X, A, B) -> case X of {A, B, 9} -> 0; {A, _, _} -> {A, B} end.", "{1, 2, 3}, 7, 8", 5, "{1,8}")
	comes(t, "f(X, A) -> case X of [A, B | 1] -> A; [B | A] -> {A, B} end.", "[1, 2, 3], 7", 5, "{[2,3],1}")
}

// namesAndTerm: a list of so many tuples of 20 names each, and a term that it matches, in which name i is the number i.
func namesAndTerm(rows int) (impl.Expr, impl.Term) {
	var names []impl.Expr
	var terms []impl.Term
	for i := range rows {
		var row []impl.Expr
		var nums []impl.Term
		for k := range 20 {
			row, nums = append(row, varX(nameNo(20*i+k))), append(nums, intTerm(20*i+k))
		}
		names, terms = append(names, tupleX(row...)), append(terms, tupleTerm(nums...))
	}
	return listX(names...), listTerm(terms...)
}

// TestEvalNames: the innermost of a name counts, and what a clause binds is gone behind it.
func TestEvalNames(t *testing.T) {
	for _, x := range []struct {
		text, args string
		fuel       int
		want       string
	}{
		{"f(X) -> case 2 of X -> X end.", "1", 3, "2"}, {"f(X) -> {case 2 of X -> X end, X}.", "1", 5, "{2,1}"}, {"f(X) -> {X, case 2 of X -> X end, X}.", "1", 6, "{1,2,1}"},
		{"f(X) -> case {X, 2} of {Y, X} -> {X, Y} end.", "1", 7, "{2,1}"}, {"f(X) -> case (X + 1) of X -> case (X * 10) of X -> {X} end end.", "1", 10, "{20}"},
		{"f(X) -> case (X + 1) of X -> {case (X * 10) of X -> X end, X} end.", "1", 11, "{20,2}"}, {"f(X) -> {case (X + 1) of X -> {case (X * 10) of X -> X end, X} end, X}.", "1", 13, "{{20,2},1}"},
		{"f(X, Y) -> case Y of X -> {X, Y} end.", "1, 2", 5, "{2,2}"}, {"f(X, Y) -> case {Y, X} of {X, Y} -> {X, Y} end.", "1, 2", 7, "{2,1}"}, {"f(X) -> case X of {X, Y} -> case Y of {X} -> X; _ -> {X, Y} end end.", "{1, 2}", 7, "{1,2}"}, {"f(X) -> case X of {X, Y} -> case Y of {X} -> X; _ -> {X, Y} end end.", "{1, {2}}", 5, "2"},
		{"f(X) -> case X of _ -> X end.", "1", 3, "1"}, {"f(X) -> case 5 of _ -> case 6 of Y -> case 7 of Z -> {X, Y, Z} end end end.", "1", 10, "{1,6,7}"},
		// A function that is called has its own names alone, and leaves the caller's as they are.
		{"f(X, Y) -> {g(Y), X, Y}. g(X) -> case {X, X} of {X, Y} -> {X, Y, z} end.", "1, 2", 13, "{{2,2,z},1,2}"}, {"f(X) -> case 3 of Y -> {g(X, Y), X, Y} end. g(Y, X) -> {X, Y}.", "1", 11, "{{3,1},1,3}"}, {"f(A) -> {g({A}), A}. g(A) -> {h({A}), A}. h(A) -> A.", "1", 11, "{{{{1}},{1}},1}"},
		{"f(A, B) -> case g(B, A) of {B, A} -> {A, B} end. g(A, B) -> {A, B}.", "1, 2", 10, "{1,2}"},
	} {
		comes(t, x.text, x.args, x.fuel, x.want)
	}
	// Very many names in one pattern, each of which is bound anew within.
	p, x := namesAndTerm(5)
	for _, i := range []int{0, 1, 19, 20, 57, 98, 99} {
		inner := caseX(varX("X"), clauseX(tupleX(varX(nameNo(i)), varX("_")), varX(nameNo(i))), clauseX(plainCopy(p), tupleX(varX(nameNo(i)), caseX(atomX("new"), clauseX(varX(nameNo(i)), varX(nameNo(i)))), varX(nameNo(i)))))
		comesBy(t, moduleX(funX("f", inner, "X")), []impl.Term{x}, 8, "{"+strconv.Itoa(i)+",new,"+strconv.Itoa(i)+"}")
	}
}

// faulty: a fault that an expression has, and what it takes of fuel, within a function that is the only one under way and has wideAndDeep as its parameters.
var faulty = []struct {
	text string
	fuel int
	want string
}{
	{"case 1 of 2 -> 1 end", 2, "MATCH"}, {"(a + 1)", 3, "ARITH"}, {"(1000000000000 * 1000000000000)", 3, "ARITH"}, {"[1 | 2]", 3, "ARITH"}, {"{Wide}", 2, "BIG"}, {"[Deep]", 2, "BIG"}, {"[1, 2 | Wide]", 4, "BIG"}, {"loop()", 1 + 39, "DEEP"}, {"loops(1)", 2 + 39*2, "DEEP"},
}

const beside = " g(A, B) -> 1. loop() -> loop(). loops(X) -> loops(X)."

func wideAndDeep() []impl.Term {
	return []impl.Term{countedTerm(300), nestedTerm(impl.TList, 7, intTerm(1))}
}

// TestEvalFaultsFromTheLeft: where several have a fault, the first from the left counts; it takes what lies ahead of it, and nothing of what lies behind.
func TestEvalFaultsFromTheLeft(t *testing.T) {
	for _, form := range []struct {
		text  string
		ahead int
	}{
		{"#", 0}, {"{#, ?}", 1}, {"[#, ?]", 1}, {"[# | ?]", 1}, {"[#, ? | ?]", 1}, {"[1, # | ?]", 2}, {"[1, 2 | #]", 3}, {"(# + ?)", 1}, {"(# == ?)", 1}, {"(1 < #)", 2}, {"g(#, ?)", 1}, {"g(1, #)", 2}, {"{1, {2, #}, ?}", 4}, {"{{2, 3}, #, ?}", 4},
		{"case # of 1 -> ?; _ -> ? end", 1}, {"case 1 of 1 -> #; _ -> ? end", 2}, {"case 1 of 2 -> ?; _ -> # end", 2}, {"case 1 of X -> {X, #, ?} end", 4}, {"g(case # of _ -> ? end, ?)", 2}, {"{case 1 of 1 -> # end, ?}", 3}, {"(g(1, 2) - #)", 5},
	} {
		for _, first := range faulty {
			for _, other := range faulty {
				text := strings.ReplaceAll(strings.ReplaceAll(form.text, "#", first.text), "?", other.text)
				if first.want != other.want {
					comesBy(t, moduleOf(t, "f(Wide, Deep) -> "+text+"."+beside), wideAndDeep(), form.ahead+first.fuel, first.want)
				}
			}
		}
	}
}

// TestEvalFaultsWithinAhead: a fault of what stands in an expression counts ahead of the expression's own, which counts where there is none within.
func TestEvalFaultsWithinAhead(t *testing.T) {
	for _, form := range []struct {
		text  string
		ahead int
		fuel  int
		want  string
	}{
		{"(# + a)", 1, 3, "ARITH"}, {"(a + #)", 2, 3, "ARITH"}, {"(1000000000000 * (2 + #))", 4, 5, "ARITH"}, {"[# | 1]", 1, 3, "ARITH"}, {"[1, # | a]", 2, 4, "ARITH"}, {"[1 | #]", 2, 3, "ARITH"},
		{"{Wide, #}", 2, 3, "BIG"}, {"{#, Deep}", 1, 3, "BIG"}, {"[Wide, #]", 2, 3, "BIG"}, {"[Deep, # | []]", 2, 4, "BIG"}, {"[# | Wide]", 1, 3, "BIG"},
		{"case # of none -> 1; {_} -> 1 end", 1, 2, "MATCH"}, {"case {#, 1} of none -> 1 end", 2, 4, "MATCH"},
	} {
		// What stands in place of the fault first comes to 1.
		comesBy(t, moduleOf(t, "f(Wide, Deep) -> "+strings.ReplaceAll(form.text, "#", "1")+"."+beside), wideAndDeep(), form.fuel, form.want)
		for _, inner := range faulty {
			comesBy(t, moduleOf(t, "f(Wide, Deep) -> "+strings.ReplaceAll(form.text, "#", inner.text)+"."+beside), wideAndDeep(), form.ahead+inner.fuel, inner.want)
		}
	}
	// A call that would be one too many has its args first. Here 40 are under way by then, each of which but the last took 10.
	down := "f(N, Wide, Deep) -> f(case (N < 40) of true -> (N + 1); false -> # end, Wide, Deep). loop() -> loop(). loops(X) -> loops(X)."
	args := append([]impl.Term{intTerm(1)}, wideAndDeep()...)
	comesBy(t, moduleOf(t, strings.ReplaceAll(down, "#", "1")), args, 39*10+1+4+1+2, "DEEP")
	for _, inner := range faulty[:7] {
		comesBy(t, moduleOf(t, strings.ReplaceAll(down, "#", inner.text)), args, 39*10+1+4+inner.fuel, inner.want)
	}
	comesBy(t, moduleOf(t, strings.ReplaceAll(down, "#", "loop()")), args, 39*10+1+4+1, "DEEP")
	comesBy(t, moduleOf(t, strings.ReplaceAll(down, "#", "loops({Wide})")), args, 39*10+1+4+3, "BIG")
}

// TestEvalBig: what is just not too big, and what is by one, by its count, its depth and the count of a list.
func TestEvalBig(t *testing.T) {
	big := func(text string, fuel int, good bool, args ...impl.Term) {
		t.Helper()
		m := moduleOf(t, text)
		x, code := evals(t, m, m.Funs[0].Name, args, fuel)
		if (code == impl.EvGood) != good || (code == impl.EvBig) == good {
			t.Errorf("%q of %+v: %d", text, args, code)
		}
		comesBy(t, m, args, fuel, came(x, code))
	}
	for _, x := range []struct {
		text string
		own  int
		fuel int
	}{{"f(A, B) -> {A, B}.", 1, 3}, {"f(A, B) -> [A, B].", 1, 3}, {"f(A, B) -> [A, B | []].", 1, 4}, {"f(A, B) -> [A | [B]].", 1, 4}, {"f(A, B) -> [1, A, B | [2]].", 3, 6}, {"f(A, B) -> {A, B, {}, a}.", 3, 5}, {"f(A, B) -> {{A}, B}.", 2, 4}, {"f(A, B) -> {A, A, B}.", 101, 4}} {
		for _, over := range []int{-2, -1, 0, 1, 2, 50} {
			big(x.text, x.fuel, over <= 0, countedTerm(100), countedTerm(300-100-x.own+over))
		}
	}
	// What is put ahead of a list has its one in place of the list's.
	for _, over := range []int{-1, 0, 1, 2} {
		big("f(A, B) -> [A | B].", 3, over <= 0, countedTerm(200), countedTerm(100+over))
		big("f(A, B) -> [1, A, 2 | B].", 5, over <= 0, countedTerm(200), countedTerm(98+over))
	}
	for deep := 1; deep <= 8; deep++ {
		tuple, list := nestedTerm(impl.TTuple, deep-1, intTerm(1)), nestedTerm(impl.TList, deep-1, listTerm())
		for _, x := range []impl.Term{tuple, list} {
			big("f(X) -> {1, X}.", 3, deep <= 7, x)
			big("f(X) -> [X].", 2, deep <= 7, x)
			big("f(X) -> [1, X | []].", 4, deep <= 7, x)
			big("f(X) -> {{X}}.", 3, deep <= 6, x)
			big("f(X) -> [[1, {X}]].", 5, deep <= 5, x)
		}
		big("f(X) -> [1 | X].", 3, true, list)
		big("f(X) -> [X | X].", 3, deep <= 7, list)
	}
	// The first that is too deep is the fault, not what stands around it.
	big("f(X) -> {{X}, (a + 1)}.", 3, false, nestedTerm(impl.TTuple, 7, intTerm(1)))
	for many := 50; many <= 60; many++ {
		rest := listTerm(timesTerm(many, intTerm(1))...)
		big("f(X) -> [a | X].", 3, many+1 <= 60, rest)
		big("f(X) -> [a, b | X].", 4, many+2 <= 60, rest)
		big("f(X) -> [a, b, c, d, e | X].", 7, many+5 <= 60, rest)
		big("f(X) -> [a | [b | X]].", 5, many+2 <= 60, rest)
		big("f(X) -> [a, X, X].", 4, true, rest)
	}
	// It is asked of what is put together, not of what is handed on.
	big("f(X) -> case g(X) of Y -> Y end. g(X) -> X.", 5, true, countedTerm(300))
	big("f(X) -> (X == X).", 3, true, countedTerm(300))
	// Where the last of a list is none, that counts first.
	for _, x := range []struct {
		text string
		fuel int
	}{{"f(Wide, Deep) -> [Wide, Deep | a].", 4}, {"f(Wide, Deep) -> [Deep | {}].", 3}, {"f(Wide, Deep) -> [Wide, Wide, Wide | 1].", 5}, {"f(Wide, Deep) -> [Deep, Wide | case Wide of X -> {} end].", 6}} {
		comesBy(t, moduleOf(t, x.text), wideAndDeep(), x.fuel, "ARITH")
	}
}

func TestEvalCalls(t *testing.T) {
	// c(N) comes to 0 with N+1 calls under way, of which it is the first.
	const count = " c(N) -> case N of 0 -> 0; _ -> c((N - 1)) end."
	cost := func(n int) int { return 6*n + 3 }
	for n := range 40 {
		comes(t, count, strconv.Itoa(n), cost(n), "0")
	}
	for _, n := range []int{40, 41, 100} {
		comes(t, count, strconv.Itoa(n), 6*40, "DEEP")
	}
	call := func(text string, fuel int, want string) {
		t.Helper()
		comes(t, "f() -> "+text+". id(X) -> X. both(A, B) -> {A, B}. b(N) -> c(N)."+count, "", fuel, want)
	}
	call("c(38)", 2+cost(38), "0")
	call("c(39)", 2+6*39, "DEEP")
	call("b(37)", 2+2+cost(37), "0")
	call("b(38)", 2+2+6*38, "DEEP")
	// What has come back counts no more, nor does a call whose args are still to come.
	call("{c(38), c(38), c(38), c(38)}", 1+4*(2+cost(38)), "{0,0,0,0}")
	call("{c(38), c(38), c(38), c(39)}", 1+3*(2+cost(38))+2+6*39, "DEEP")
	call("id(id(id(c(38))))", 3+2+cost(38)+3, "0")
	call("id(id(id(c(39))))", 3+2+6*39, "DEEP")
	call("both(c(38), id(c(38)))", 1+2+cost(38)+1+2+cost(38)+1+3, "{0,0}")
	call("case c(38) of X -> c((38 + X)) end", 1+2+cost(38)+4+cost(38), "0")
	call("((c(38) + c(38)) + c(39))", 2+2*(2+cost(38))+2+6*39, "DEEP")
	call("[c(38) | case c(38) of 0 -> [c(38)] end]", 1+2+cost(38)+1+2+cost(38)+1+2+cost(38), "[0,0]")
	// Two that call each other count together.
	two := "even(N) -> case N of 0 -> true; _ -> odd((N - 1)) end. odd(N) -> case N of 0 -> false; _ -> even((N - 1)) end."
	comes(t, two, "39", cost(39), "false")
	comes(t, two, "38", cost(38), "true")
	comes(t, two, "40", 6*40, "DEEP")
	// What is told behind each call is told all the same at the greatest depth.
	comes(t, "f(N) -> case N of 0 -> []; _ -> [N | f((N - 1))] end.", "39", 8*39+3, "["+strings.Join(strings.Fields("39 38 37 36 35 34 33 32 31 30 29 28 27 26 25 24 23 22 21 20 19 18 17 16 15 14 13 12 11 10 9 8 7 6 5 4 3 2 1"), ",")+"]")
	comes(t, "f(N) -> case N of 0 -> 0; _ -> (N + f((N - 1))) end.", "39", 8*39+3, "780")
}

// TestEvalDeepAndFuel: where both meet. That a call would be one too many comes ahead of what it would take.
func TestEvalDeepAndFuel(t *testing.T) {
	comes(t, "f() -> f().", "", 40, "DEEP")
	comes(t, "f(X) -> f(X).", "1", 80, "DEEP")
	comes(t, "f(A, B, C, D) -> f(D, C, B, A).", "1, 2, 3, 4", 200, "DEEP")
	comes(t, "f() -> g(). g() -> f().", "", 40, "DEEP")
	comes(t, "f() -> g(). g() -> g().", "", 40, "DEEP")
	comes(t, "f() -> {1, f()}.", "", 120, "DEEP")
	comes(t, "f() -> {f(), 1}.", "", 80, "DEEP")
	comes(t, "f(X) -> f({X}).", "1", 3*8, "BIG")
	comes(t, "f(X) -> f((X + 2)).", "1", 4*40, "DEEP")
	comes(t, "f(X) -> f((X * 2)).", "1", 4*40, "ARITH")
	comes(t, "f(X) -> f((X * 2)).", "0", 4*40, "DEEP")
	comes(t, "f(X) -> f((X * 10)).", "1", 4*13, "ARITH")
	comes(t, "f(X) -> f([1, 2 | X]).", "[]", 5*31, "BIG")
	comes(t, "f(X) -> f(g(X)). g(X) -> {1, X, 2}.", "a", (3+4)*8, "BIG")
	// So many calls that come back that no fuel is enough.
	m := moduleOf(t, "f(N) -> case N of 0 -> 0; _ -> {f((N - 1)), f((N - 1))} end. g(N) -> case N of 0 -> 1; _ -> case g((N - 1)) of X -> g((N - 1)) end end.")
	for _, fuel := range []int{0, 1, 100, 99999, 100000} {
		if got := came(evals(t, m, "g", []impl.Term{intTerm(30)}, fuel)); got != "FUEL" {
			t.Errorf("with %d: %s", fuel, got)
		}
		staysSame(t, m, "g", []impl.Term{intTerm(30)}, fuel)
	}
	// Each takes twice what the one below it takes, and 11 more.
	cost := 3
	for n := range 16 {
		got, less := came(evals(t, m, "g", []impl.Term{intTerm(n)}, min(cost, 100000))), came(evals(t, m, "g", []impl.Term{intTerm(n)}, min(cost-1, 100000)))
		if cost <= 100000 && (got != "1" || less != "FUEL") || cost > 100000 && got != "FUEL" {
			t.Errorf("g of %d with %d: %s, %s", n, cost, got, less)
		}
		cost = 3 + 2*(4+cost)
	}
}

// lively: what random modules are made of: the names that are bound, and the functions that are there.
type lively struct {
	r    *rand.Rand
	funs []impl.Fun
}

func (w *lively) exprs(many int, deep int, names []string) []impl.Expr {
	var l []impl.Expr
	for range many {
		l = append(l, w.expr(deep, names))
	}
	return l
}

// number: an expression that comes to a number, mostly.
func (w *lively) number(deep int, names []string) impl.Expr {
	if deep <= 1 || w.r.Intn(3) == 0 {
		if len(names) > 0 && w.r.Intn(3) > 0 {
			return varX(names[w.r.Intn(len(names))])
		}
		return intX([]int{0, 1, 2, 3, 7, 1000000, impl.MaxInt}[w.r.Intn(7)])
	}
	return opX([]string{"+", "-", "*"}[w.r.Intn(3)], w.number(deep-1, names), w.number(deep-1, names))
}

// list: an expression that comes to a list, mostly.
func (w *lively) list(deep int, names []string) impl.Expr {
	if len(names) > 0 && w.r.Intn(3) == 0 {
		return varX(names[w.r.Intn(len(names))])
	}
	if deep <= 1 || w.r.Intn(2) == 0 {
		return listX(w.exprs(w.r.Intn(3), deep-1, names)...)
	}
	return consX(append(w.exprs(1+w.r.Intn(3), deep-1, names), w.list(deep-1, names))...)
}

// expr: an expression that has no fault, mostly.
func (w *lively) expr(deep int, names []string) impl.Expr {
	kind := w.r.Intn(13)
	if deep <= 1 {
		kind = w.r.Intn(4)
	}
	switch kind {
	case 0, 1, 2:
		if len(names) > 0 && kind > 0 {
			return varX(names[w.r.Intn(len(names))])
		}
		return intX(w.r.Intn(4))
	case 3:
		return atomX([]string{"a", "b", "true", "false"}[w.r.Intn(4)])
	case 4:
		return tupleX(w.exprs(w.r.Intn(4), deep-1, names)...)
	case 5, 6:
		return w.list(deep, names)
	case 7:
		return opX([]string{"==", "<"}[w.r.Intn(2)], w.expr(deep-1, names), w.expr(deep-1, names))
	case 8:
		return w.number(deep, names)
	case 9, 10:
		f := w.funs[w.r.Intn(len(w.funs))]
		return callX(f.Name, w.exprs(len(f.Params), deep-1, names)...)
	}
	return w.choice(deep, names)
}

// choice: its last clause takes all, mostly.
func (w *lively) choice(deep int, names []string) impl.Expr {
	e := caseX(w.expr(deep-1, names))
	for i := range 1 + w.r.Intn(4) {
		p := mixedX(w.r, 1+w.r.Intn(3), true)
		for !plainOk(p, true) {
			p = mixedX(w.r, 2, true)
		}
		if i > 0 && w.r.Intn(2) == 0 {
			p = varX([]string{"A", "_", "B"}[w.r.Intn(3)])
		}
		e.C = append(e.C, clauseX(p, w.expr(deep-1, append(slices.Clone(names), plainVars(p)...))))
	}
	return e
}

func (w *lively) module() impl.Module {
	w.funs = nil
	params := []string{"A", "B", "C", "D"}
	for _, name := range []string{"f", "g", "h", "k"}[:1+w.r.Intn(4)] {
		w.r.Shuffle(4, func(i int, k int) { params[i], params[k] = params[k], params[i] })
		w.funs = append(w.funs, impl.Fun{Name: name, Params: slices.Clone(params[:w.r.Intn(5)])})
	}
	m := impl.Module{Funs: slices.Clone(w.funs)}
	for i := range m.Funs {
		m.Funs[i].X = w.expr(2+w.r.Intn(5), m.Funs[i].Params)
	}
	return m
}

func (w *lively) arg() impl.Term {
	switch w.r.Intn(8) {
	case 0:
		return countedTerm(240 + w.r.Intn(61))
	case 1:
		return nestedTerm(impl.TTuple+w.r.Intn(2), 4+w.r.Intn(4), intTerm(1))
	case 2:
		return listTerm(timesTerm(50+w.r.Intn(11), intTerm(2))...)
	case 3, 4:
		return intTerm(w.r.Intn(5))
	}
	return randomTerm(w.r, 3)
}

func TestEvalByAnotherWitness(t *testing.T) {
	w := &lively{r: rand.New(rand.NewSource(83))}
	var seen [7]int
	for i := range 12000 {
		m := w.module()
		if !plainRight(m) {
			continue
		}
		f := m.Funs[w.r.Intn(len(m.Funs))]
		var args []impl.Term
		for range f.Params {
			args = append(args, w.arg())
		}
		fuel := []int{w.r.Intn(20), w.r.Intn(100), 300, 1000}[w.r.Intn(4)]
		_, code := evals(t, m, f.Name, args, fuel)
		seen[code]++
		if i%4 == 0 {
			staysSame(t, m, f.Name, args, fuel)
		}
		if i%20 == 0 {
			spoilModule(w.r, &m)
			evals(t, m, f.Name, args, fuel)
		}
	}
	for code, many := range seen {
		if many < 100 && code != impl.EvForm {
			t.Error("too few to tell anything:", seen)
		}
	}
}

// TestEvalLeavesArgumentsAlone: and what stands behind a list's length is neither read nor written.
func TestEvalLeavesArgumentsAlone(t *testing.T) {
	build := func() ([]impl.Fun, []string, []impl.Expr, []impl.Clause, []impl.Term, []impl.Term) {
		params := []string{"A", "B", "C", "D", "E"}
		parts := []impl.Expr{varX("A"), varX("B"), varX("A"), varX("Z"), {K: 99}}
		clauses := []impl.Clause{clauseX(consX(varX("H"), varX("B")), impl.Expr{K: impl.XCons, E: parts[:3]}), clauseX(varX("Y"), varX("Z")), {P: impl.Expr{K: 99}}}
		funs := []impl.Fun{{Name: "f", Params: params[:2], X: impl.Expr{K: impl.XCase, E: parts[1:2], C: clauses[:1]}}, {Name: "g"}, {Name: "f"}}
		inner := []impl.Term{intTerm(1), intTerm(2), atomTerm("a"), intTerm(77), {K: 99}}
		args := []impl.Term{{K: impl.TList, L: inner[:2]}, {K: impl.TList, L: inner[:3]}, intTerm(77), {K: 99}}
		return funs, params, parts, clauses, inner, args
	}
	funs, params, parts, clauses, inner, args := build()
	wantFuns, wantParams, wantParts, wantClauses, wantInner, wantArgs := build()
	m := impl.Module{Funs: funs[:1]}
	for _, fuel := range []int{0, 1, 4, 6, 100} {
		got := came(evals(t, m, "f", args[:2], fuel))
		if fuel < 6 && got != "FUEL" || fuel >= 6 && got != "[[1,2],[2,a],1,2]" {
			t.Errorf("with %d: %s", fuel, got)
		}
	}
	for _, args := range [][]impl.Term{args[:0], args[:1], args[:3]} {
		if got := came(evals(t, m, "f", args, 100)); got != "FORM" {
			t.Error(len(args), "args:", got)
		}
	}
	if got := came(evals(t, m, "g", nil, 100)); got != "FORM" {
		t.Error("a function behind the module's length:", got)
	}
	for _, op := range []string{"+", "-", "*", "==", "<", ""} {
		operates(t, op, args[0], args[1])
	}
	if !plainSameModule(impl.Module{Funs: funs}, impl.Module{Funs: wantFuns}) || !slices.Equal(params, wantParams) || !plainSame(tupleX(parts...), tupleX(wantParts...)) || !plainSame(impl.Expr{C: clauses}, impl.Expr{C: wantClauses}) || !alikeTerms(listTerm(inner...), listTerm(wantInner...)) || !alikeTerms(listTerm(args...), listTerm(wantArgs...)) {
		t.Error("a call wrote into its argument, or behind it")
	}
}

// TestEvalSharesNoMemory: lists that are one in an argument, or in what was bound, are apart in the answer.
func TestEvalSharesNoMemory(t *testing.T) {
	shared := listTerm(intTerm(3), listTerm(atomTerm("a")), tupleTerm(listTerm(atomTerm("b"))))
	args := []impl.Term{shared, tupleTerm(shared, shared), shared}
	for _, s := range []string{"A", "{A, A}", "[A, B, C]", "[A | A]", "[B, B | C]", "case B of {X, Y} -> {X, Y, X, A} end", "case A of [_ | T] -> {T, T} end", "case A of [H | T] -> [H | T] end", "{g(A), g(A)}", "g(g(A))", "{ok, a, ok}", "case C of X -> {X, A, C} end", "(A == A)"} {
		m := moduleOf(t, "f(A, B, C) -> "+s+". g(X) -> {X, X}.")
		if x, code := evals(t, m, "f", args, 100); code != impl.EvGood {
			t.Errorf("%s: %d, %+v", s, code, x)
		}
	}
	// What is answered may be written into, and nothing else changes.
	m := moduleOf(t, "f(A) -> case A of [H | T] -> {T, T} end.")
	long := listTerm(timesTerm(6, intTerm(1))...)
	x, _ := impl.Eval(m, "f", []impl.Term{long}, 100)
	rest := x.L[0].L[:cap(x.L[0].L)]
	for i := range rest {
		rest[i] = intTerm(77)
	}
	if !alikeTerms(long, listTerm(timesTerm(6, intTerm(1))...)) || !alikeTerms(x.L[1], listTerm(timesTerm(5, intTerm(1))...)) {
		t.Error("a rest is a part of the argument, or of another rest")
	}
	// Texts over bytes that change.
	b := []byte("nameatomotherA+")
	name, atom, other, param, op := unsafe.String(&b[0], 4), unsafe.String(&b[4], 4), unsafe.String(&b[8], 5), unsafe.String(&b[13], 1), unsafe.String(&b[14], 1)
	m = moduleX(funX(name, tupleX(atomX(atom), varX(param), callX(other)), param), funX(other, atomX(other)))
	x, code := impl.Eval(m, name, []impl.Term{listTerm(atomTerm(atom), atomTerm(other))}, 100)
	sum, sumCode := impl.Operate(op, intTerm(1), intTerm(2))
	if string(b) != "nameatomotherA+" {
		t.Error("a text was written into")
	}
	overwrite(b)
	if got := came(x, code); got != "{atom,[atom,other],other}" {
		t.Error("Eval:", got)
	}
	if got := came(sum, sumCode); got != "3" {
		t.Error("Operate:", got)
	}
	// Answers of two calls have nothing in common, either.
	first, _ := impl.Operate("==", atomTerm("true"), atomTerm("true"))
	second, _ := impl.Operate("<", intTerm(1), intTerm(2))
	if meeting(textSpan(first.S), textSpan(second.S)) || first.S != "true" || second.S != "true" {
		t.Error("two answers of Operate share memory, or are wrong:", first, second)
	}
}

// TestEvalEndsOnAnything: arguments that are very deep, share very often, or have no end.
func TestEvalEndsOnAnything(t *testing.T) {
	const deep = 100000
	m := moduleOf(t, "f(X) -> X. g() -> 1.")
	for i, x := range []impl.Term{nestedTerm(impl.TTuple, deep, intTerm(1)), doubledTerm(14, intTerm(1)), doubledTerm(40, intTerm(1)), doubledTerm(3000, atomTerm("a")), roundTerm(1), roundTerm(1, 2, 3), listTerm(timesTerm(deep, roundTerm(5))...)} {
		for _, op := range []string{"+", "-", "*", "==", "<", ""} {
			for _, y := range []impl.Term{x, intTerm(1)} {
				a, codeA := impl.Operate(op, x, y)
				b, codeB := impl.Operate(op, y, x)
				if came(a, codeA) != "FORM" || came(b, codeB) != "FORM" {
					t.Error("term", i, op, codeA, codeB)
				}
			}
		}
		if y, code := impl.Eval(m, "f", []impl.Term{x}, 100); came(y, code) != "FORM" {
			t.Error("term", i, "as an arg:", code)
		}
	}
	ring := []impl.Expr{intX(1), {K: impl.XTuple}}
	ring[1].E = ring
	nest := intX(1)
	for range deep {
		nest = tupleX(nest)
	}
	for i, e := range []impl.Expr{ring[1], nest, doubledX(40, intX(1)), doubledX(3000, callX("g")), doubledCase(40, "A", "B", intX(1)), tupleX(timesX(deep, intX(1))...)} {
		for _, m := range []impl.Module{moduleX(funX("f", e)), moduleX(funX("f", intX(1)), funX("g", e))} {
			if y, code := impl.Eval(m, "f", nil, 100); came(y, code) != "FORM" {
				t.Error("expression", i, code)
			}
		}
	}
	if y, code := impl.Eval(moduleX(slices.Repeat(m.Funs, deep)...), "f", nil, 100); came(y, code) != "FORM" {
		t.Error("very many functions:", code)
	}
	if y, code := impl.Eval(m, strings.Repeat("f", 10*deep), nil, 100); came(y, code) != "FORM" {
		t.Error("a very long name:", code)
	}
}

// TestEvalOfMostWork: what takes most for its fuel: great terms that are put together, held against each other and taken apart again and again.
func TestEvalOfMostWork(t *testing.T) {
	names, table := namesAndTerm(10)
	wide := caseX(varX("X"), clauseX(tupleX(), intX(1)), clauseX(names, callX("again", varX("X"), varX("N"))))
	m := moduleOf(t, "again(X, N) -> case N of 0 -> X; _ -> case once(X, (N - 1)) of Y -> once(Y, (N - 1)) end end. once(X, N) -> again(X, N). puts(X, N) -> case N of 0 -> X; _ -> case puts(X, (N - 1)) of [_ | T] -> [0 | case puts(T, (N - 1)) of Y -> Y end] end end. asks(X, N) -> case N of 0 -> (X == X); _ -> case {asks(X, (N - 1)), (X < X), ({X} == X)} of {Y, _, false} -> (Y == asks(X, (N - 1))) end end.")
	m.Funs[1].X = wide
	for _, x := range []struct {
		name string
		arg  impl.Term
		n    int
		code int
	}{
		{"again", table, 5, impl.EvGood}, {"again", table, 19, impl.EvFuel}, {"again", table, 20, impl.EvDeep}, {"puts", countedTerm(300), 5, impl.EvGood}, {"puts", countedTerm(300), 30, impl.EvFuel}, {"asks", countedTerm(299), 30, impl.EvFuel}, {"asks", countedTerm(299), 3, impl.EvGood},
	} {
		args := []impl.Term{x.arg, intTerm(x.n)}
		if _, code := impl.Eval(m, x.name, args, 100000); code != x.code {
			t.Errorf("%s of %d: %d", x.name, x.n, code)
		}
		evals(t, m, x.name, args, 4000)
		staysSame(t, m, x.name, args, 100000)
	}
}
