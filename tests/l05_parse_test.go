package tests

import (
	"math/rand"
	"slices"
	"strconv"
	"strings"
	"testing"
	"unsafe"

	"loop.example/g00236/impl"
)

func funX(name string, x impl.Expr, params ...string) impl.Fun {
	return impl.Fun{Name: name, Params: params, X: x}
}

func moduleX(l ...impl.Fun) impl.Module { return impl.Module{Funs: l} }

// plainText: the chapter's words once more, of what is right or not, as another witness.
func plainText(e impl.Expr) string {
	var l []string
	for _, x := range e.E {
		l = append(l, plainText(x))
	}
	row := strings.Join(l, ", ")
	switch e.K {
	case impl.XInt:
		return strconv.Itoa(e.N)
	case impl.XAtom, impl.XVar:
		return e.S
	case impl.XTuple:
		return "{" + row + "}"
	case impl.XList:
		return "[" + row + "]"
	case impl.XCons:
		last := max(len(l)-1, 0)
		return "[" + strings.Join(l[:last], ", ") + " | " + strings.Join(l[last:], ", ") + "]"
	case impl.XOp:
		return "(" + strings.Join(l, " "+e.S+" ") + ")"
	case impl.XCall:
		return e.S + "(" + row + ")"
	case impl.XCase:
		var clauses []string
		for _, c := range e.C {
			clauses = append(clauses, plainText(c.P)+" -> "+plainText(c.X))
		}
		return "case " + row + " of " + strings.Join(clauses, "; ") + " end"
	}
	return ""
}

func plainModuleText(m impl.Module) string {
	s := ""
	for _, f := range m.Funs {
		s += f.Name + "(" + strings.Join(f.Params, ", ") + ") -> " + plainText(f.X) + ".\n"
	}
	return s
}

func plainModuleOk(m impl.Module) bool {
	for _, f := range m.Funs {
		for _, name := range f.Params {
			if name == "_" || !impl.TokenOk(varToken(name)) {
				return false
			}
		}
		if len(f.Params) > 4 || !impl.AtomOk(f.Name) || slices.Contains([]string{"case", "of", "end"}, f.Name) || !plainOk(f.X, false) {
			return false
		}
	}
	return len(m.Funs) <= 12
}

func plainSameModule(a impl.Module, b impl.Module) bool {
	return slices.EqualFunc(a.Funs, b.Funs, func(f impl.Fun, g impl.Fun) bool {
		return f.Name == g.Name && slices.Equal(f.Params, g.Params) && plainSame(f.X, g.X)
	})
}

// sameTokens: both texts are good, and of the same tokens.
func sameTokens(a string, b string) bool {
	l, place := impl.Lex(a)
	k, other := impl.Lex(b)
	return place == -1 && other == -1 && slices.Equal(l, k)
}

// reads: what ParseExpr answers is right and of this text's tokens, or it is the zero one and false.
func reads(t *testing.T, s string) (impl.Expr, bool) {
	t.Helper()
	e, ok := impl.ParseExpr(s)
	if !ok && !plainSame(e, impl.Expr{}) {
		t.Fatalf("%q is refused with %+v", s, e)
	}
	if ok && (!plainOk(e, false) || !sameTokens(plainText(e), s)) {
		t.Fatalf("%q is read as %+v", s, e)
	}
	return e, ok
}

func readsAs(t *testing.T, s string, want impl.Expr) {
	t.Helper()
	if e, ok := reads(t, s); !ok || !plainSame(e, want) {
		t.Errorf("%q: %v, %+v, not %+v", s, ok, e, want)
	}
}

func refuses(t *testing.T, l ...string) {
	t.Helper()
	for _, s := range l {
		if e, ok := reads(t, s); ok {
			t.Errorf("%q is read as %+v", s, e)
		}
	}
}

// readsModule: what ParseModule answers is right and of this text's tokens, or it is nothing and false.
func readsModule(t *testing.T, s string) (impl.Module, bool) {
	t.Helper()
	m, ok := impl.ParseModule(s)
	if !ok && len(m.Funs) > 0 {
		t.Fatalf("%q is refused with %+v", s, m)
	}
	if ok && (!plainModuleOk(m) || !sameTokens(plainModuleText(m), s)) {
		t.Fatalf("%q is read as %+v", s, m)
	}
	return m, ok
}

func refusesModules(t *testing.T, l ...string) {
	t.Helper()
	for _, s := range l {
		if m, ok := readsModule(t, s); ok {
			t.Errorf("%q is read as %+v", s, m)
		}
	}
}

func TestExprTexts(t *testing.T) {
	a, b, one := atomX("a"), varX("B"), intX(1)
	for _, x := range []struct {
		e    impl.Expr
		want string
	}{
		{intX(0), "0"}, {intX(10), "10"}, {intX(impl.MaxInt), "1000000000000"},
		{a, "a"}, {atomX("true"), "true"}, {atomX("cases"), "cases"}, {atomX("of_"), "of_"}, {atomX("ends"), "ends"}, {atomX("end1"), "end1"}, {atomX(twentySmall), twentySmall},
		{b, "B"}, {varX("__"), "__"}, {varX("_a"), "_a"}, {varX("Case"), "Case"}, {varX("END"), "END"}, {varX(twentyMixed), twentyMixed},
		{tupleX(), "{}"}, {tupleX(a), "{a}"}, {tupleX(a, b, one), "{a, B, 1}"}, {tupleX(tupleX(), tupleX(tupleX())), "{{}, {{}}}"},
		{listX(), "[]"}, {listX(one), "[1]"}, {listX(one, listX(), listX(b)), "[1, [], [B]]"},
		{consX(one, b), "[1 | B]"}, {consX(one, a, b), "[1, a | B]"}, {consX(a, a, a, a, a, b), "[a, a, a, a, a | B]"}, {consX(one, listX()), "[1 | []]"}, {consX(one, consX(one, b)), "[1 | [1 | B]]"}, {consX(consX(one, a), b), "[[1 | a] | B]"},
		{opX("+", a, b), "(a + B)"}, {opX("-", one, one), "(1 - 1)"}, {opX("*", b, b), "(B * B)"}, {opX("==", a, one), "(a == 1)"}, {opX("<", one, b), "(1 < B)"},
		{opX("+", opX("-", a, b), opX("*", one, a)), "((a - B) + (1 * a))"}, {opX("-", intX(0), one), "(0 - 1)"},
		{callX("f"), "f()"}, {callX("f", one), "f(1)"}, {callX("f", one, a, b, tupleX()), "f(1, a, B, {})"}, {callX("g", callX("h"), opX("+", one, one)), "g(h(), (1 + 1))"}, {callX("case_", callX("off")), "case_(off())"},
		{caseX(b, clauseX(one, a)), "case B of 1 -> a end"}, {caseX(b, clauseX(varX("_"), a), clauseX(b, b)), "case B of _ -> a; B -> B end"},
		{caseX(caseX(one, clauseX(one, a)), clauseX(tupleX(varX("_"), varX("_")), caseX(b, clauseX(consX(varX("_"), varX("T")), varX("T")))), clauseX(listX(), a)), "case case 1 of 1 -> a end of {_, _} -> case B of [_ | T] -> T end; [] -> a end"},
		{caseX(opX("==", one, one), clauseX(atomX("true"), callX("f"))), "case (1 == 1) of true -> f() end"},
	} {
		if s := impl.ExprText(x.e); s != x.want || s != plainText(x.e) {
			t.Errorf("%+v: %q, not %q", x.e, s, x.want)
		}
		readsAs(t, x.want, x.e)
	}
}

func TestRightExprsComeBack(t *testing.T) {
	for _, e := range append(rightPats(), onlyExprs()...) {
		for _, x := range append(around(e), e) {
			s := impl.ExprText(x)
			if !impl.ExprOk(x) {
				if s != "" {
					t.Errorf("%+v: %q", x, s)
				}
				continue
			}
			if s != plainText(x) {
				t.Errorf("%+v: %q", x, s)
			}
			readsAs(t, s, x)
		}
	}
}

// TestWrongExprsHaveNoText: nor is one read of what their text would be, unless that is the text of another one.
func TestWrongExprsHaveNoText(t *testing.T) {
	for _, wrong := range wrongExprs() {
		l := append(around(wrong), wrong)
		for _, p := range append(aroundPattern(wrong), wrong) {
			l = append(l, caseX(intX(1), clauseX(p, intX(1))))
		}
		for _, e := range l {
			if s := impl.ExprText(e); s != "" {
				t.Errorf("%+v: %q", e, s)
			}
			if x, ok := reads(t, plainText(e)); ok && plainSame(x, e) {
				t.Errorf("%q is read as %+v", plainText(e), x)
			}
		}
	}
	for _, p := range []impl.Expr{varX("_"), tupleX(varX("_")), listX(varX("_"), intX(1)), consX(intX(1), varX("_"))} {
		if s := impl.ExprText(p); s != "" || !impl.PatOk(p) {
			t.Errorf("a pattern alone: %q", s)
		}
	}
}

func TestBlanksAndRemarks(t *testing.T) {
	sum := opX("+", atomX("a"), varX("B"))
	for _, s := range []string{"(a+B)", "( a + B )", " (a+B) ", "\t(\na\r+ \t B\r\n)\n", "%\n(a+B)%", "( % one ( and [ more\na % two\n+ % +\n B%)\n) % the end", "%%%\n%(\n(a+B)\n% )", "\n\n\n(a  +  B)"} {
		readsAs(t, s, sum)
	}
	choice := caseX(varX("X"), clauseX(intX(0), atomX("a")), clauseX(consX(varX("_"), varX("T")), varX("T")))
	for _, s := range []string{"case X of 0->a;[_|T]->T end", "case\nX\nof\n0\n->\na\n;\n[\n_\n|\nT\n]\n->\nT\nend", "case%\nX%\nof%\n0->a%;\n;[_|T]->T%end\nend%end", "case X of 0 -> a; [_ | T] -> T end"} {
		readsAs(t, s, choice)
	}
	readsAs(t, "f (1)", callX("f", intX(1)))
	readsAs(t, "f\n%\n(\n)", callX("f"))
	readsAs(t, "case(1+2)of{}->[]end", caseX(opX("+", intX(1), intX(2)), clauseX(tupleX(), listX())))
	readsAs(t, "case[1]of[]->{}end", caseX(listX(intX(1)), clauseX(listX(), tupleX())))
	readsAs(t, "caseX of 0->a end", caseX(varX("X"), clauseX(intX(0), atomX("a"))))
	readsAs(t, "case 1of 2->3end", caseX(intX(1), clauseX(intX(2), intX(3))))
	readsAs(t, "(1-1)", opX("-", intX(1), intX(1)))
	readsAs(t, "(1 -1)", opX("-", intX(1), intX(1)))
	readsAs(t, "(a*0)", opX("*", atomX("a"), intX(0)))
	// A blank within a token makes two of it, none between two makes one, and a remark takes all of its line.
	refuses(t, "casex of 0->a end", "case1of 0->a end", "case Xof 0->a end", "case X of 0->aend", "case X of 0 - > a end", "(a = = B)", "(1 = 1)", "(a + % B)", "case X % of 0 -> a end", "% 1", "1 000", "[1 %, 2]")
}

func TestNumbersRead(t *testing.T) {
	for _, n := range []int{0, 1, 9, 10, 1000, impl.MaxInt - 1, impl.MaxInt} {
		readsAs(t, strconv.Itoa(n), intX(n))
		readsAs(t, "[{"+strconv.Itoa(n)+"}]", listX(tupleX(intX(n))))
		refuses(t, "-"+strconv.Itoa(n), "- "+strconv.Itoa(n), "(-"+strconv.Itoa(n)+")", "(1 + -"+strconv.Itoa(n)+")", "(-"+strconv.Itoa(n)+" + 1)", "{-"+strconv.Itoa(n)+"}", "+"+strconv.Itoa(n), "0"+strconv.Itoa(n))
	}
	refuses(t, "1000000000001", "9999999999999", "18446744073709551617", "[1000000000001]", "case 1 of -1 -> 2 end", "case 1 of 01 -> 2 end", "00", "1.0", "1.", "0x1", "1a", "1A")
}

func TestNoExprTexts(t *testing.T) {
	// Nothing, more than one, and what goes on or ends too early.
	refuses(t, "", " ", "\n", "%", "% a\n", "1 2", "a b", "A B", "a B", "aB", "1, 2", "1 .", "a;", "{} {}", "[] []", "f() g()", "(1 + 2) 3", "f()()", "case X of 1 -> 2 end end", "case X of 1 -> 2 end 3", "1)", "1]", "1}", "{1}}", "[1]]", "(1 + 2))", "f(1))", ")", "]", "}", ",", ".", ";", "|", "->", "==", "<", "+", "-", "*", "(", "[", "{", "f(")
	// Operations: always within one pair, of just two.
	refuses(t, "1+2", "1 < 2", "a == b", "(1)", "(a)", "((1))", "()", "((1 + 2))", "(((1 + 2)))", "((1) + 2)", "(1 + (2))", "(1 + 2 + 3)", "(1 +)", "(+ 1)", "(+)", "(1 2)", "(1 2 3)", "(1 A 2)", "(1 a 2)", "(1 -> 2)", "(1 , 2)", "(1 ; 2)", "(1 | 2)", "(1 . 2)", "(1 ( 2)", "(1 ++ 2)", "(1 + + 2)", "(1 <- 2)", "(1 <== 2)", "(1 case 2)", "(1 + 2}", "{1 + 2}", "[1 + 2]", "f(1 + 2)", "(1 + 2, 3)", "(1, 2 + 3)", "(1 + 2 | 3)")
	// Rows.
	refuses(t, "{,}", "[,]", "f(,)", "{1,}", "[1,]", "f(1,)", "{,1}", "[,1]", "f(,1)", "{1,,2}", "[1,,2]", "f(1,,2)", "{1 2}", "[1 2]", "f(1 2)", "{1; 2}", "[1; 2]", "{1. 2}", "{1)", "[1}", "(1 + 2]", "f(1}", "f{1}", "f[1]", "f)", "{a|b}", "f(a|b)", "(a|b)")
	// Cons.
	refuses(t, "[|]", "[|T]", "[1|]", "[1,|T]", "[1||T]", "[1|T,U]", "[1|T|U]", "[1|,T]", "[1|T", "[1|T}", "[1|T,]", "[1 |")
	// Calls of what is no name of one.
	refuses(t, "X(1)", "_(1)", "1(2)", "{}()", "[]()", "(1 + 2)()", "f()(1)", "f((1))", "f(())")
	// Cases.
	refuses(t, "case", "case X", "case X of", "case X of end", "case X of 0", "case X of 0 ->", "case X of 0 -> 1", "case X of 0 -> 1;", "case X of 0 -> 1; end", "case X of ; 0 -> 1 end", "case X of 0 -> 1;; 2 -> 3 end", "case X of 0 -> 1 2 -> 3 end", "case X of 0 -> 1, 2 -> 3 end", "case X of 0 -> 1. end", "case X of -> 1 end", "case X of 0 -> end", "case X of 0 1 end", "case X of 0 == 1 end", "case X of 0 -> 1 -> 2 end", "case of 0 -> 1 end", "case X, Y of 0 -> 1 end", "case X Y of 0 -> 1 end", "case X 0 -> 1 end", "X of 0 -> 1 end", "of 0 -> 1 end", "0 -> 1", "0 -> 1; 2 -> 3", "case X of 0 -> 1 of 2 -> 3 end", "case X of 0, 1 -> 2 end", "(case X of 0 -> 1 end)", "case (X) of 0 -> 1 end", "case X of (0) -> 1 end", "case X of 0 -> (1) end", "case X of case -> 1 end", "case case of 0 -> 1 end")
	// What is no token.
	refuses(t, "=", ">", "a = b", "\"a\"", "'a'", "#", "a/1", "a\x00", "\x00", "é", "É", "{a, é}", "{1, 2} \xff", "1 !", "a:b()", "<0>", "(1 > 2)", "(1 =< 2)", "(1 / 2)", twentySmall+"u", "A"+twentySmall)
}

// TestThreeWords: they are no atoms and no names of calls, anywhere; what only begins like them is.
func TestThreeWords(t *testing.T) {
	for _, s := range []string{"case", "of", "end"} {
		for _, e := range append(append(around(atomX(s)), around(callX(s))...), atomX(s), callX(s), callX(s, intX(1)), caseX(intX(1), clauseX(atomX(s), intX(1)))) {
			refuses(t, plainText(e))
			if text := impl.ExprText(e); text != "" {
				t.Errorf("%+v: %q", e, text)
			}
		}
		for _, near := range []string{s + "s", s + "_", s + "1", "a" + s, s[:1], s + s} {
			readsAs(t, near, atomX(near))
			readsAs(t, near+"()", callX(near))
			readsAs(t, "case "+near+" of "+near+" -> "+near+" end", caseX(atomX(near), clauseX(atomX(near), atomX(near))))
		}
		large := strings.ToUpper(s)
		readsAs(t, "{"+large+", _"+s+"}", tupleX(varX(large), varX("_"+s)))
	}
	refuses(t, "case case of of -> end end", "case of of of -> of end", "case end of end -> end end", "{of}", "[end]", "f(case)", "(of + end)", "of()", "end(1)", "case(1)")
}

func TestPatternsRead(t *testing.T) {
	blank, a := varX("_"), varX("A")
	for _, p := range append(aroundPattern(blank), blank, tupleX(blank, blank), tupleX(a, blank, varX("B"), blank), consX(a, varX("T")), tupleX(), listX(), atomX("ok"), intX(impl.MaxInt), a) {
		readsAs(t, "case X of "+plainText(p)+" -> 1 end", caseX(varX("X"), clauseX(p, intX(1))))
		readsAs(t, "case X of 0 -> 1; "+plainText(p)+" -> 2; "+plainText(p)+" -> 3 end", caseX(varX("X"), clauseX(intX(0), intX(1)), clauseX(p, intX(2)), clauseX(p, intX(3))))
	}
	for _, e := range append(around(blank), blank) {
		refuses(t, plainText(e))
	}
	for _, e := range append(around(varX("__")), around(varX("_a"))...) {
		readsAs(t, plainText(e), e)
	}
	for _, p := range []string{"f()", "f(1)", "(1 + 2)", "(A == B)", "{f()}", "[(1 + 2)]", "[1 | f()]", "case 1 of 2 -> 3 end", "{case 1 of 2 -> 3 end}", "{A, A}", "[A | A]", "[A, {1, A}]", "{_A, _A}", "{__, __}", "[A, B | {A}]", "{A, _, _, A}"} {
		refuses(t, "case X of "+p+" -> 1 end", "case X of 0 -> 1; "+p+" -> 1 end", "f(case X of "+p+" -> 1; 0 -> 1 end)", "case X of 0 -> case X of "+p+" -> 1 end end")
	}
	readsAs(t, "{A, A}", tupleX(a, a))
	readsAs(t, "case A of A -> A; A -> A end", caseX(a, clauseX(a, a), clauseX(a, a)))
	readsAs(t, "case A of A -> case A of A -> A end end", caseX(a, clauseX(a, caseX(a, clauseX(a, a)))))
}

// fits: the expression has a text which comes back, or, where it is told to be wrong, none, and no text of it is read.
func fits(t *testing.T, what string, e impl.Expr, right bool) {
	t.Helper()
	text := plainText(e)
	if right {
		if s := impl.ExprText(e); s != text {
			t.Errorf("%s: %q", what, s)
		}
		readsAs(t, text, e)
		return
	}
	if s := impl.ExprText(e); s != "" {
		t.Errorf("%s: %q", what, s)
	}
	refuses(t, text)
}

func TestTextLimits(t *testing.T) {
	one := intX(1)
	for n := range 30 {
		row := timesX(n, one)
		what := strconv.Itoa(n)
		fits(t, "tuple of "+what, tupleX(row...), n <= 20)
		fits(t, "list of "+what, listX(row...), n <= 20)
		fits(t, "cons of "+what, consX(row...), n >= 2 && n <= 6)
		fits(t, "operation of "+what, opX("-", row...), n == 2)
		fits(t, "call of "+what, callX("f", row...), n <= 4)
		fits(t, "case of "+what, caseX(one, clausesX(n)...), n >= 1 && n <= 6)
		fits(t, "case in a case of "+what, caseX(caseX(one, clausesX(n)...), clauseX(one, caseX(one, clausesX(n)...))), n >= 1 && n <= 6)
	}
	for _, way := range deepWays {
		e := one
		for deep := 1; deep <= 14; deep++ {
			what := way.name + ", deep " + strconv.Itoa(deep)
			fits(t, what, e, deep <= 10)
			fits(t, what+" in X", caseX(one, clauseX(one, e)), deep <= 9)
			if way.pat {
				fits(t, what+" in P", caseX(one, clauseX(e, one)), deep <= 9)
			}
			e = way.wrap(e)
		}
	}
	for count := 290; count <= 310; count++ {
		what := strconv.Itoa(count) + " in all"
		fits(t, what, countedX(count), count <= 300)
		fits(t, what+", in P", caseX(one, clauseX(countedX(count-3), one)), count <= 300)
		fits(t, what+", in X", caseX(one, clauseX(one, countedX(count-3))), count <= 300)
		fits(t, what+", in E", caseX(countedX(count-7), clausesX(3)...), count <= 300)
	}
}

// tokensIn: as many as a text has, which is good.
func tokensIn(t *testing.T, s string) int {
	t.Helper()
	l, place := impl.Lex(s)
	if place != -1 {
		t.Fatalf("no tokens at %d", place)
	}
	return len(l)
}

// TestGreatTexts: what is too great for an expression, or for Lex, is refused, and every call ends.
func TestGreatTexts(t *testing.T) {
	for _, n := range []int{11, 667, 999, 1000, 1001, 1999, 2000, 2001, 5000, 200000} {
		for _, s := range []string{"(", "[", "{", ")", "1 ", "case ", "f(", "[1|", "(1+", "1,", "case 1 of 1 -> "} {
			refuses(t, strings.Repeat(s, n))
		}
		refuses(t, strings.Repeat("{", n)+strings.Repeat("}", n), strings.Repeat("[", n)+strings.Repeat("]", n), strings.Repeat("f(", n)+strings.Repeat(")", n), strings.Repeat("(1 + ", n)+"1"+strings.Repeat(")", n), "["+strings.Repeat("1,", n)+"1|[]]", strings.Repeat("case ", n)+"1"+strings.Repeat(" of 1 -> 1 end", n), strings.Repeat("9", n+10), strings.Repeat("a", n+10))
		refusesModules(t, strings.Repeat("f", n), strings.Repeat("f(", n), strings.Repeat("f()->", n), strings.Repeat("f()->1.", max(n, 13)), "f()->"+strings.Repeat("{", n)+strings.Repeat("}", n)+".")
		readsAs(t, strings.Repeat(" ", n)+"1"+strings.Repeat("\n", n)+"%"+strings.Repeat("(", n), intX(1))
	}
	refuses(t, plainText(countedX(300))+" "+strings.Repeat("1 ", impl.MaxTokens))
	// A right expression never has more tokens than Lex takes: a call of nothing has the most of all, three and a `,`.
	most := countedX(300)
	for _, x := range placesX(&most) {
		if x.K == impl.XInt {
			*x = callX("f")
		}
	}
	if n := tokensIn(t, plainText(most)); n < 1100 {
		t.Error(n, "tokens")
	}
	readsAs(t, impl.ExprText(most), most)
}

// spread: the tokens with anything between them that is passed over, often nothing where that parts them.
func spread(r *rand.Rand, l []impl.Token) string {
	gaps := []string{" ", "  ", "\t", "\n", "\r\n", "% of ( [ end\n", "%\n", " %%.\n "}
	s := ""
	for i, x := range l {
		part := impl.TokenText(x)
		both, place := impl.Lex(s + part)
		joins := i > 0 && (place != -1 || !slices.Equal(both, l[:i+1]))
		if joins || r.Intn(2) == 0 {
			s += gaps[r.Intn(len(gaps))]
		}
		s += part
	}
	return s + []string{"", " ", "\n", "% end", "%\n"}[r.Intn(5)]
}

func TestExprsComeBack(t *testing.T) {
	r := rand.New(rand.NewSource(8))
	right := 0
	kinds := map[int]int{}
	for i := range 20000 {
		e := mixedX(r, 1+r.Intn(7), false)
		if i%4 == 0 {
			e = spoiltX(r, e)
		}
		if !plainOk(e, false) {
			if s := impl.ExprText(e); s != "" {
				t.Fatalf("%+v: %q", e, s)
			}
			reads(t, plainText(e))
			continue
		}
		right++
		kinds[e.K]++
		s := impl.ExprText(e)
		if s != plainText(e) {
			t.Fatalf("%+v: %q", e, s)
		}
		readsAs(t, s, e)
		if len(s) < 200 {
			l, _ := impl.Lex(s)
			readsAs(t, spread(r, l), e)
		}
	}
	if right < 10000 || len(kinds) != 9 {
		t.Error(right, "right ones, of kinds", kinds)
	}
}

// changed: one change of the tokens of a text, most often to what is none.
func changed(r *rand.Rand, l []impl.Token) []impl.Token {
	l = slices.Clone(l)
	words := strings.Fields("( ) { } [ ] , . ; | -> == < + - * case of end a f X A _ 0 1")
	k, _ := impl.Lex(words[r.Intn(len(words))])
	at := r.Intn(len(l))
	to := r.Intn(len(l))
	switch r.Intn(6) {
	case 0:
		return slices.Delete(l, at, at+1)
	case 1:
		return slices.Insert(l, at, k...)
	case 2:
		l[at], l[to] = l[to], l[at]
	case 3:
		l[at] = k[0]
	case 4:
		return slices.Insert(l, at, l[min(at, to):max(at, to)]...)
	case 5:
		return slices.Delete(l, min(at, to), max(at, to))
	}
	return l
}

// TestChangedTexts: what is read is of its text, whatever that is; so none is read as what it is only like.
func TestChangedTexts(t *testing.T) {
	r := rand.New(rand.NewSource(9))
	read, refused := 0, 0
	for range 20000 {
		e := mixedX(r, 1+r.Intn(5), false)
		l, place := impl.Lex(plainText(e))
		if place != -1 {
			continue
		}
		for range 1 + r.Intn(3) {
			l = changed(r, append(l, impl.Token{K: impl.KMark, S: "."}))
			l = slices.DeleteFunc(l, func(x impl.Token) bool { return x.S == "." })
			if len(l) == 0 {
				break
			}
		}
		if _, ok := reads(t, impl.JoinTokens(l)); ok {
			read++
		} else {
			refused++
		}
	}
	if read < 1000 || refused < 5000 {
		t.Error(read, "read,", refused, "refused")
	}
}

// writings: every text of just n tokens, over few words, by the form of expressions; a third witness.
type writings struct {
	known map[[2]int][]string
}

const (
	anyExpr = iota
	anyPat
	anyRow
	patRow
	anyClauses
)

func (w *writings) of(what int, n int) []string {
	key := [2]int{what, n}
	if l, ok := w.known[key]; ok || n < 1 {
		return l
	}
	w.known[key] = nil
	var l []string
	switch what {
	case anyExpr:
		l = w.exprs(n, anyExpr, anyRow)
	case anyPat:
		l = w.exprs(n, anyPat, patRow)
	case anyRow, patRow:
		l = append(w.of(what-anyRow, n), w.pairs(what-anyRow, ",", what, n)...)
	case anyClauses:
		l = w.pairs(anyPat, "->", anyExpr, n)
		for k := 3; k < n; k++ {
			for _, first := range w.pairs(anyPat, "->", anyExpr, k) {
				for _, rest := range w.of(anyClauses, n-k-1) {
					l = append(l, first+" ; "+rest)
				}
			}
		}
	}
	w.known[key] = l
	return l
}

// pairs: one of a first kind, a word, and one of a second kind.
func (w *writings) pairs(first int, word string, second int, n int) []string {
	var l []string
	for k := 1; k < n-1; k++ {
		for _, a := range w.of(first, k) {
			for _, b := range w.of(second, n-k-1) {
				l = append(l, a+" "+word+" "+b)
			}
		}
	}
	return l
}

func (w *writings) exprs(n int, one int, row int) []string {
	var l []string
	within := func(open string, parts []string, end string) {
		for _, s := range parts {
			l = append(l, open+" "+s+" "+end)
		}
	}
	switch n {
	case 1:
		l = append(l, "a", "X")
		if one == anyPat {
			l = append(l, "_")
		}
	case 2:
		l = append(l, "{ }", "[ ]")
	case 3:
		if one == anyExpr {
			l = append(l, "a ( )")
		}
	}
	within("{", w.of(row, n-2), "}")
	within("[", w.of(row, n-2), "]")
	within("[", w.pairs(row, "|", one, n-2), "]")
	if one == anyPat {
		return slices.DeleteFunc(l, func(s string) bool { return strings.Count(s, "X") > 1 })
	}
	within("(", w.pairs(one, "+", one, n-2), ")")
	within("a (", w.of(row, n-3), ")")
	within("case", w.pairs(one, "of", anyClauses, n-2), "end")
	return l
}

// TestEveryShortText: all texts over few words are read or refused as the form of expressions has it.
func TestEveryShortText(t *testing.T) {
	w := &writings{known: map[[2]int][]string{}}
	for _, x := range []struct {
		ahead string
		words string
		most  int
	}{
		{"", "a X _ ( ) { } [ ] , | +", 5},
		{"", "a X { [ | ] , }", 6},
		{"case X of", "case of a X _ -> ; end", 6},
		{"case X of", "X -> ; end {", 8},
		{"case", "a X ( ) of -> end", 7},
	} {
		ahead := len(strings.Fields(x.ahead))
		words := strings.Fields(x.words)
		right := map[string]int{}
		for n := range x.most + 1 {
			for _, s := range w.of(anyExpr, ahead+n) {
				right[s] = 1
			}
		}
		row := []string{x.ahead}
		for range x.most {
			var longer []string
			for _, s := range row {
				for _, word := range words {
					next := strings.TrimSpace(s + " " + word)
					longer = append(longer, next)
					if _, ok := impl.ParseExpr(next); ok != (right[next] == 1) {
						t.Fatalf("%q: %v", next, ok)
					}
				}
			}
			row = longer
		}
	}
}

func TestModuleTexts(t *testing.T) {
	a, one := varX("A"), intX(1)
	for _, x := range []struct {
		m    impl.Module
		want string
	}{
		{moduleX(), ""},
		{moduleX(funX("f", atomX("ok"))), "f() -> ok.\n"},
		{moduleX(funX("f", a, "A")), "f(A) -> A.\n"},
		{moduleX(funX("f", intX(0), "A", "B", "C", "D")), "f(A, B, C, D) -> 0.\n"},
		{moduleX(funX("f", callX("g", varX("X"), one), "X"), funX("g", opX("+", a, varX("B")), "A", "B"), funX("h", atomX("ok"))), "f(X) -> g(X, 1).\ng(A, B) -> (A + B).\nh() -> ok.\n"},
		{moduleX(funX("f", caseX(a, clauseX(varX("_"), one), clauseX(listX(), a)), "A")), "f(A) -> case A of _ -> 1; [] -> A end.\n"},
		// What is for checking: one name of two, free names, calls of none.
		{moduleX(funX("f", one), funX("f", one), funX("f", a, "A")), "f() -> 1.\nf() -> 1.\nf(A) -> A.\n"},
		{moduleX(funX("f", a, "A", "A", "A", "A")), "f(A, A, A, A) -> A.\n"},
		{moduleX(funX("f", tupleX(varX("B"), callX("none", a)), "A")), "f(A) -> {B, none(A)}.\n"},
		{moduleX(funX("cases", one), funX("of_", one), funX("end1", one), funX(twentySmall, one, twentyMixed, "__", "_a")), "cases() -> 1.\nof_() -> 1.\nend1() -> 1.\n" + twentySmall + "(" + twentyMixed + ", __, _a) -> 1.\n"},
	} {
		if s := impl.ModuleText(x.m); s != x.want || s != plainModuleText(x.m) {
			t.Errorf("%+v: %q, not %q", x.m, s, x.want)
		}
		if m, ok := readsModule(t, x.want); !ok || !plainSameModule(m, x.m) {
			t.Errorf("%q: %v, %+v", x.want, ok, m)
		}
	}
	for _, s := range []string{"", " ", "\n\n", "% nothing", "%\n%.\n"} {
		if m, ok := readsModule(t, s); !ok || len(m.Funs) != 0 {
			t.Errorf("%q: %v, %+v", s, ok, m)
		}
	}
	want := moduleX(funX("f", one, "A", "B"), funX("g", atomX("f")))
	for _, s := range []string{"f(A,B)->1.g()->f.", "f ( A , B ) -> 1 . g ( ) -> f .", "% two\nf%\n(A,%B\nB)->%.\n1%.\n.\n\n\ng()->f.%", "\tf(A,\r\nB)\n->\n1\n.\ng()\n->\nf\n."} {
		if m, ok := readsModule(t, s); !ok || !plainSameModule(m, want) {
			t.Errorf("%q: %v, %+v", s, ok, m)
		}
	}
}

func TestNoModuleTexts(t *testing.T) {
	// Without all of its marks, or with more.
	refusesModules(t, ".", "..", "f", "f.", "f()", "f().", "f() ->", "f() -> .", "f() -> 1", "f() -> 1..", ". f() -> 1.", "f() -> 1. .", "f() -> 1;", "f() -> 1,", "f() -> 1. g()", "f() -> 1. g() -> 2", "f() -> 1 g() -> 2.", "f() -> 1; g() -> 2.", "f() 1.", "f() == 1.", "f() - 1.", "-> 1.", "() -> 1.", "f -> 1.", "f( -> 1.", "f) -> 1.", "f(A -> 1.", "f A) -> 1.", "f(A B) -> 1.", "f(A; B) -> 1.", "f(A | B) -> 1.", "f(,) -> 1.", "f(A,) -> 1.", "f(,A) -> 1.", "f(A,,B) -> 1.", "f[A] -> 1.", "f{A} -> 1.", "[A] -> 1.", "{A} -> 1.", "(A + B) -> 1.", "f(A)() -> 1.", "f()) -> 1.", "(f()) -> 1.", "f() -> 1 2.", "f() -> -> 1.", "f() -> 1 -> 2.", "1.", "1", "a", "A.", "f() -> g() -> 1.", "f() -> 1.\x00", "= f() -> 1.", "f() => 1.", "f() -> 1.5.", "f() -> 1. % . g() -> 2.\n.")
	// Names and Params.
	refusesModules(t, "F() -> 1.", "_() -> 1.", "1() -> 1.", "case() -> 1.", "of() -> 1.", "end() -> 1.", "case(A) -> 1.", "of(A) -> 1.", "end(A) -> 1.", "case A of 1 -> 2 end -> 1.", "case A of 1 -> 2 end.", "f(x) -> 1.", "f(1) -> 1.", "f(_) -> 1.", "f(A, _) -> 1.", "f(_, A) -> 1.", "f(A, b) -> 1.", "f({}) -> 1.", "f({A}) -> 1.", "f([A]) -> 1.", "f([A | B]) -> 1.", "f(g()) -> 1.", "f(g(A)) -> 1.", "f((A + B)) -> 1.", "f((A)) -> 1.", "f(case A of A -> A end) -> 1.", "f(A, B, C, D, E) -> 1.", "f(A, A, A, A, A) -> 1.", "f(case) -> 1.", "f(-1) -> 1.", twentySmall+"u() -> 1.", "f(A"+twentySmall+") -> 1.")
	// What they come to.
	refusesModules(t, "f() -> _.", "f() -> (1).", "f() -> 1 + 2.", "f() -> -1.", "f() -> case.", "f() -> of.", "f() -> end.", "f() -> end().", "f() -> [|T].", "f() -> {1,}.", "f() -> case 1 of end.", "f() -> case 1 of g() -> 2 end.", "f() -> case 1 of {A, A} -> 2 end.", "f() -> 1000000000001.", "f() -> 01.", "f() -> 1, 2.", "f() -> "+plainText(nestedX(10, intX(1)))+".", "f() -> "+plainText(countedX(301))+".", "f() -> "+plainText(listX(timesX(21, intX(1))...))+".", "f() -> "+plainText(callX("g", timesX(5, intX(1))...))+".", "f() -> "+plainText(caseX(intX(1), clausesX(7)...))+".")
	// One that is wrong among right ones.
	for _, wrong := range []string{"f(_) -> 1.", "F() -> 1.", "f() -> _.", "f() -> 1", "of() -> 1."} {
		refusesModules(t, "g() -> 1. "+wrong, wrong+" g() -> 1.", "g() -> 1. "+wrong+" h() -> 1.")
	}
}

// wrongFuns: each has one fault alone.
func wrongFuns() []impl.Fun {
	one := intX(1)
	var l []impl.Fun
	for _, s := range []string{"", "A", "_", "1", "case", "of", "end", "f()", "f ", "a b", "é", "\x00", twentySmall + "u"} {
		l = append(l, funX(s, one), funX(s, one, "A"))
	}
	for _, s := range []string{"", "a", "_", "1", "A b", "A,B", "A ", "A\x00", "É", "case", twentyMixed + "x"} {
		l = append(l, funX("f", one, s), funX("f", one, "A", s), funX("f", one, s, "A"), funX("f", one, "A", "B", "C", s))
	}
	l = append(l, funX("f", one, "A", "B", "C", "D", "E"), funX("f", one, slices.Repeat([]string{"A"}, 1000)...), impl.Fun{}, impl.Fun{Name: "f"})
	for _, e := range append(wrongExprs(), varX("_"), tupleX(varX("_"))) {
		l = append(l, funX("f", e))
	}
	return l
}

func TestWrongModulesHaveNoText(t *testing.T) {
	good := funX("g", varX("A"), "A")
	for _, f := range wrongFuns() {
		for _, m := range []impl.Module{moduleX(f), moduleX(good, f), moduleX(f, good), moduleX(good, f, good)} {
			if s := impl.ModuleText(m); s != "" {
				t.Errorf("%+v: %q", m, s)
			}
			if x, ok := readsModule(t, plainModuleText(m)); ok && plainSameModule(x, m) {
				t.Errorf("%q is read as %+v", plainModuleText(m), x)
			}
		}
	}
}

func TestModuleLimits(t *testing.T) {
	names := []string{"A", "B", "C", "D", "E", "F"}
	for many := range 16 {
		for params := range len(names) + 1 {
			m := moduleX(slices.Repeat([]impl.Fun{funX("f", intX(many), names[:params]...)}, many)...)
			text := plainModuleText(m)
			x, ok := readsModule(t, text)
			if want := many <= 12 && (params <= 4 || many == 0); want {
				if impl.ModuleText(m) != text || !ok || !plainSameModule(x, m) {
					t.Errorf("%d functions with %d Params: %q, %v", many, params, impl.ModuleText(m), ok)
				}
			} else if impl.ModuleText(m) != "" || ok {
				t.Errorf("%d functions with %d Params: %q, %v", many, params, impl.ModuleText(m), ok)
			}
		}
	}
	for _, x := range []struct {
		e     impl.Expr
		right bool
	}{{countedX(300), true}, {countedX(301), false}, {nestedX(9, intX(1)), true}, {nestedX(10, intX(1)), false}} {
		m := moduleX(funX("f", x.e), funX("g", x.e, "A"))
		_, ok := readsModule(t, plainModuleText(m))
		if (impl.ModuleText(m) == plainModuleText(m)) != x.right || ok != x.right || (impl.ModuleText(m) == "") == x.right {
			t.Errorf("%v: %q", ok, impl.ModuleText(m))
		}
	}
}

// tupleOfTokens: one whose text has just so many tokens, 2 to 42.
func tupleOfTokens(n int) impl.Expr {
	row := timesX((n-1)/2, intX(7))
	if n%2 == 0 && len(row) > 0 {
		row[0] = listX()
	}
	return tupleX(row...)
}

// moduleOfTokens: one of just so many tokens in its text, some 2000.
func moduleOfTokens(t *testing.T, want int) impl.Module {
	t.Helper()
	var m impl.Module
	great := funX("great", countedX(300))
	size := tokensIn(t, plainModuleText(moduleX(great)))
	for ; want >= size+7; want -= size {
		m.Funs = append(m.Funs, great)
	}
	// A function without Params has 5 beside its X; none of fewer than 7 may be left over.
	for want > 0 {
		n := min(want, 40)
		if left := want - n; left > 0 && left < 7 {
			n -= 7
		}
		m.Funs = append(m.Funs, funX("small", tupleOfTokens(n-5)))
		want -= n
	}
	return m
}

// TestModulesOfMostTokens: a module of more tokens than Lex takes has a text all the same, but none is read of it.
func TestModulesOfMostTokens(t *testing.T) {
	for want := impl.MaxTokens - 30; want <= impl.MaxTokens+30; want++ {
		m := moduleOfTokens(t, want)
		text := impl.ModuleText(m)
		if text == "" || text != plainModuleText(m) {
			t.Fatalf("%d tokens: %q", want, text)
		}
		l, place := impl.Lex(text)
		if want <= impl.MaxTokens && len(l) != want || (place == -1) != (want <= impl.MaxTokens) {
			t.Fatal(want, len(l), place)
		}
		x, ok := readsModule(t, text)
		if ok != (want <= impl.MaxTokens) || ok && !plainSameModule(x, m) {
			t.Errorf("%d tokens: %v", want, ok)
		}
	}
	most := moduleX(slices.Repeat([]impl.Fun{funX("f", countedX(300))}, 12)...)
	if s := impl.ModuleText(most); s != plainModuleText(most) {
		t.Errorf("12 functions of 300: %q", s)
	}
	refusesModules(t, plainModuleText(most))
}

func mixedModule(r *rand.Rand) impl.Module {
	var m impl.Module
	for range r.Intn(6) {
		f := funX([]string{"f", "g", "handle", "case1"}[r.Intn(4)], mixedX(r, 1+r.Intn(5), false))
		for range r.Intn(5) {
			f.Params = append(f.Params, []string{"A", "B", "C", "_x", "__"}[r.Intn(5)])
		}
		m.Funs = append(m.Funs, f)
	}
	return m
}

func TestModulesComeBack(t *testing.T) {
	r := rand.New(rand.NewSource(10))
	right, read, refused := 0, 0, 0
	for range 5000 {
		m := mixedModule(r)
		text := plainModuleText(m)
		if !plainModuleOk(m) {
			if s := impl.ModuleText(m); s != "" {
				t.Fatalf("%+v: %q", m, s)
			}
			readsModule(t, text)
			continue
		}
		if s := impl.ModuleText(m); s != text {
			t.Fatalf("%+v: %q", m, s)
		}
		l, place := impl.Lex(text)
		if place != -1 {
			refusesModules(t, text)
			continue
		}
		right++
		if x, ok := readsModule(t, text); !ok || !plainSameModule(x, m) {
			t.Fatalf("%q: %v, %+v", text, ok, x)
		}
		if len(l) == 0 {
			continue
		}
		if len(text) < 200 {
			if x, ok := readsModule(t, spread(r, l)); !ok || !plainSameModule(x, m) {
				t.Fatalf("%q, spread: %v, %+v", text, ok, x)
			}
		}
		if _, ok := readsModule(t, impl.JoinTokens(changed(r, l))); ok {
			read++
		} else {
			refused++
		}
	}
	if right < 2000 || read < 200 || refused < 1000 {
		t.Error(right, "right,", read, "changed ones read,", refused, "refused")
	}
}

// TestCutTexts: a beginning of a text, or its end, is refused, but where it is a text itself.
func TestCutTexts(t *testing.T) {
	e := wholeX()
	l, _ := impl.Lex(plainText(e))
	for at := range l {
		if at > 0 {
			refuses(t, impl.JoinTokens(l[:at]))
			reads(t, impl.JoinTokens(l[at:]))
		}
		refuses(t, impl.JoinTokens(l)+" "+impl.JoinTokens(l[at:]))
	}
	m := moduleX(funX("f", e, "A", "B"), funX("g", intX(1)), funX("h", callX("f", listX(), tupleX()), "C"))
	l, _ = impl.Lex(plainModuleText(m))
	for at := range l {
		_, ok := readsModule(t, impl.JoinTokens(l[:at]))
		if want := at == 0 || l[at-1].S == "."; ok != want {
			t.Errorf("the first %d: %v", at, ok)
		}
		_, ok = readsModule(t, impl.JoinTokens(l[at:]))
		if want := at == 0 || l[at-1].S == "."; ok != want {
			t.Errorf("from %d on: %v", at, ok)
		}
	}
}

// TestTextsEndOnAnyExpr: what holds itself, or shares too often, has no text, and the call ends.
func TestTextsEndOnAnyExpr(t *testing.T) {
	ring := []impl.Expr{{K: impl.XList}}
	ring[0].E = ring
	round := []impl.Clause{clauseX(intX(1), intX(1))}
	round[0].X = caseX(intX(1), round...)
	round[0].X.C = round
	deep := nestedX(1000000, intX(1))
	for i, e := range []impl.Expr{ring[0], round[0].X, deep, doubledX(60, intX(1)), doubledCase(60, "A", "B", intX(1)), listX(timesX(1000000, intX(1))...), callX("f", ring[0]), caseX(intX(1), clauseX(ring[0], intX(1)))} {
		if s := impl.ExprText(e); s != "" {
			t.Errorf("%d: %d bytes", i, len(s))
		}
		if s := impl.ModuleText(moduleX(funX("f", intX(1)), funX("g", e))); s != "" {
			t.Errorf("%d: a module: %d bytes", i, len(s))
		}
	}
	if s := impl.ModuleText(moduleX(make([]impl.Fun, 1000000)...)); s != "" {
		t.Errorf("%d bytes", len(s))
	}
	if s := impl.ModuleText(moduleX(slices.Repeat([]impl.Fun{funX("f", deep)}, 13)...)); s != "" {
		t.Errorf("%d bytes", len(s))
	}
	// What is shared and still right has its text, each place apart.
	both := listX(intX(1), intX(2))
	readsAs(t, impl.ExprText(tupleX(both, both)), tupleX(both, both))
}

func TestTextsLeaveArgumentsAlone(t *testing.T) {
	e, parts, clauses := roomyX()
	_, keptParts, keptClauses := roomyX()
	want := "case {B, C} of C -> {C, D} end"
	if s := impl.ExprText(e); s != want {
		t.Errorf("%q", s)
	}
	params := []string{"A", "B", "_", "behind"}
	funs := []impl.Fun{{Name: "f", Params: params[:2], X: e}, {Name: "g", X: impl.Expr{K: impl.XList, E: parts[:1]}}, {Name: "Behind"}}
	kept := slices.Clone(funs)
	if s := impl.ModuleText(impl.Module{Funs: funs[:2]}); s != "f(A, B) -> "+want+".\ng() -> [B].\n" {
		t.Errorf("%q", s)
	}
	if impl.ModuleText(impl.Module{Funs: funs}) != "" {
		t.Error("three functions, one of them wrong")
	}
	if !plainSame(impl.Expr{E: parts, C: clauses}, impl.Expr{E: keptParts, C: keptClauses}) || !slices.Equal(params, []string{"A", "B", "_", "behind"}) || !plainSameModule(impl.Module{Funs: funs}, impl.Module{Funs: kept}) {
		t.Error("writing wrote into its argument, or behind it")
	}
}

// TestTextsShareNoMemory: names over bytes that change show what an answer holds on to.
func TestTextsShareNoMemory(t *testing.T) {
	b := []byte("fooAbc+")
	name, param, op := unsafe.String(&b[0], 3), unsafe.String(&b[3], 3), unsafe.String(&b[6], 1)
	atom, variable := impl.ExprText(atomX(name)), impl.ExprText(varX(param))
	call := impl.ExprText(callX(name, varX(param), opX(op, varX(param), atomX(name))))
	module := impl.ModuleText(moduleX(funX(name, varX(param), param)))
	if string(b) != "fooAbc+" {
		t.Error("a name was written into")
	}
	overwrite(b)
	if atom != "foo" || variable != "Abc" || call != "foo(Abc, (Abc + foo))" || module != "foo(Abc) -> Abc.\n" {
		t.Error("a text shares memory with an argument", atom, variable, call, module)
	}
}

func TestReadShareNoMemory(t *testing.T) {
	text := "foo(Abc, Xyz) -> case {Abc, bar(12)} of [Q | _] -> (Q + Xyz); ok -> {} end. bar(A) -> A."
	b := []byte(text)
	s := unsafe.String(&b[0], len(b))
	m, _ := impl.ParseModule(s)
	at := strings.Index(text, "case")
	e, _ := impl.ParseExpr(s[at:strings.Index(text, ".")])
	wanted, ok := readsModule(t, strings.Clone(text))
	if string(b) != text || !ok {
		t.Fatal("reading wrote into its text")
	}
	overwrite(b)
	if !plainSameModule(m, wanted) || !plainSame(e, wanted.Funs[0].X) {
		t.Errorf("what is read shares memory with its text: %+v, %+v", m, e)
	}
	spoilX(&e)
	spoilX(&m.Funs[0].X)
	for i := range m.Funs[0].Params[:cap(m.Funs[0].Params)] {
		m.Funs[0].Params[:cap(m.Funs[0].Params)][i] = "spoilt"
	}
	if again, ok := readsModule(t, text); !ok || !plainSameModule(again, wanted) {
		t.Error("two answers share memory")
	}
	if !slices.Equal(m.Funs[1].Params, []string{"A"}) || !plainSame(m.Funs[1].X, varX("A")) {
		t.Error("two functions of one answer share memory")
	}
}

// TestReadListsAreApart: to overwrite one list, with the room behind it, leaves all others as they were.
func TestReadListsAreApart(t *testing.T) {
	text := "{[1, 2, 3], {1, 2, 3}, f(1, 2, 3), [1, 2, 3 | T], (1 + 2), case {1, 2, 3} of [1, 2, 3] -> {1, 2, 3}; {1, 2, 3} -> [1, 2, 3] end, [1, 2, 3], {}, [], f()}"
	whole, ok := reads(t, text)
	if !ok {
		t.Fatal("not read")
	}
	for at := 1; at < len(placesX(&whole)); at++ {
		e, _ := impl.ParseExpr(text)
		x := placesX(&e)[at]
		spoilX(x)
		x.E, x.C = nil, nil
		if !plainSame(withoutAt(e, at), withoutAt(whole, at)) {
			t.Errorf("a list at %d is shared", at)
		}
	}
	m, _ := impl.ParseModule("f(A, B, C) -> 1. g(A, B, C) -> 2. h(A, B, C) -> 3.")
	for i := range m.Funs {
		l := m.Funs[i].Params
		if !slices.Equal(l, []string{"A", "B", "C"}) {
			t.Errorf("Params at %d are shared: %v", i, l)
		}
		for k := range l[:cap(l)] {
			l[:cap(l)][k] = "spoilt"
		}
	}
}

// withoutAt: a copy in which the expression at this place, by placesX, is the zero one.
func withoutAt(e impl.Expr, at int) impl.Expr {
	e = plainCopy(e)
	*placesX(&e)[at] = impl.Expr{}
	return e
}
