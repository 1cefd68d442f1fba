package tests

import (
	"math/rand"
	"slices"
	"strconv"
	"strings"
	"testing"
	"unsafe"

	"loop.example/g00236/impl"
)

func bindTo(name string, x impl.Term) impl.Bind { return impl.Bind{Name: name, T: x} }

// patternOf: the pattern of a text.
func patternOf(t *testing.T, s string) impl.Expr {
	t.Helper()
	e, ok := reads(t, "case 1 of "+s+" -> 1 end")
	if !ok {
		t.Fatalf("%q is no pattern", s)
	}
	return e.C[0].P
}

// constantTerm: the term of an expression of numbers, atoms, tuples and lists alone.
func constantTerm(e impl.Expr) impl.Term {
	x := impl.Term{K: map[int]int{impl.XInt: impl.TInt, impl.XAtom: impl.TAtom, impl.XTuple: impl.TTuple, impl.XList: impl.TList}[e.K], N: e.N, S: e.S}
	for _, part := range e.E {
		x.L = append(x.L, constantTerm(part))
	}
	return x
}

// termFrom: the term of a text, in which a pid is written as pid(7), a number below 0 as (0 - 7).
func termFrom(t *testing.T, s string) impl.Term {
	t.Helper()
	e, ok := reads(t, s)
	if !ok {
		t.Fatalf("%q is no term", s)
	}
	var of func(impl.Expr) impl.Term
	of = func(e impl.Expr) impl.Term {
		switch e.K {
		case impl.XCall:
			return pidTerm(e.E[0].N)
		case impl.XOp:
			return intTerm(e.E[0].N - e.E[1].N)
		}
		x := constantTerm(impl.Expr{K: e.K, N: e.N, S: e.S})
		for _, part := range e.E {
			x.L = append(x.L, of(part))
		}
		return x
	}
	return of(e)
}

// bindsFrom: binds of a text such as "A 1; B [2]".
func bindsFrom(t *testing.T, s string) []impl.Bind {
	t.Helper()
	var l []impl.Bind
	for one := range strings.SplitSeq(s, ";") {
		if one = strings.TrimSpace(one); one != "" {
			name, rest, _ := strings.Cut(one, " ")
			l = append(l, bindTo(name, termFrom(t, rest)))
		}
	}
	return l
}

func alikeBinds(a []impl.Bind, b []impl.Bind) bool {
	return slices.EqualFunc(a, b, func(a impl.Bind, b impl.Bind) bool { return a.Name == b.Name && alikeTerms(a.T, b.T) })
}

// plainTermOk: the words of chapter 2 once more, as another witness.
func plainTermOk(x impl.Term) bool {
	var fits func(x impl.Term, left *int, deep int) bool
	fits = func(x impl.Term, left *int, deep int) bool {
		*left--
		zeroN, zeroS, zeroL := x.N == 0, x.S == "", len(x.L) == 0
		own := x.K == impl.TInt && x.N <= impl.MaxInt && x.N >= -impl.MaxInt && zeroS && zeroL ||
			x.K == impl.TAtom && impl.AtomOk(x.S) && zeroN && zeroL ||
			x.K == impl.TPid && x.N >= 0 && x.N <= 1000000 && zeroS && zeroL ||
			x.K == impl.TTuple && len(x.L) <= 20 && zeroN && zeroS ||
			x.K == impl.TList && len(x.L) <= 60 && zeroN && zeroS
		for i := 0; own && i < len(x.L); i++ {
			own = fits(x.L[i], left, deep+1)
		}
		return own && *left >= 0 && deep <= 8
	}
	left := 300
	return fits(x, &left, 1)
}

// plainMatch: the chapter's words once more, by pairs that are still to be held against each other, from the left.
func plainMatch(p impl.Expr, x impl.Term) ([]impl.Bind, bool) {
	type pair struct {
		p impl.Expr
		x impl.Term
	}
	if !plainOk(p, true) || !plainTermOk(x) {
		return nil, false
	}
	var l []impl.Bind
	for todo := []pair{{p, x}}; len(todo) > 0; {
		p, x := todo[0].p, todo[0].x
		todo = todo[1:]
		many := len(p.E)
		var row []pair
		ok := true
		switch p.K {
		case impl.XInt:
			ok = x.K == impl.TInt && x.N == p.N
		case impl.XAtom:
			ok = x.K == impl.TAtom && x.S == p.S
		case impl.XVar:
			if p.S != "_" {
				l = append(l, bindTo(p.S, x))
			}
		case impl.XTuple:
			ok = x.K == impl.TTuple && len(x.L) == many
		case impl.XList:
			ok = x.K == impl.TList && len(x.L) == many
		case impl.XCons:
			many--
			if ok = x.K == impl.TList && len(x.L) >= many; ok {
				row = []pair{{p.E[many], listTerm(x.L[many:]...)}}
			}
		}
		if !ok {
			return nil, false
		}
		for i := many - 1; i >= 0; i-- {
			row = append([]pair{{p.E[i], x.L[i]}}, row...)
		}
		todo = append(row, todo...)
	}
	return l, true
}

// plainFill: the chapter's words once more.
func plainFill(p impl.Expr, l []impl.Bind) (impl.Term, bool) {
	first := map[string]impl.Term{}
	for _, b := range slices.Backward(l) {
		first[b.Name] = b.T
	}
	whole := true
	var of func(p impl.Expr) impl.Term
	of = func(p impl.Expr) impl.Term {
		if p.K == impl.XVar {
			x, there := first[p.S]
			whole = whole && there
			return x
		}
		var row []impl.Term
		for _, part := range p.E {
			row = append(row, of(part))
		}
		if p.K != impl.XCons {
			return impl.Term{K: constantTerm(p).K, N: p.N, S: p.S, L: row}
		}
		last := row[len(row)-1]
		whole = whole && last.K == impl.TList
		return listTerm(slices.Concat(row[:len(row)-1], last.L)...)
	}
	if !plainOk(p, true) {
		return impl.Term{}, false
	}
	if x := of(p); whole && plainTermOk(x) {
		return x, true
	}
	return impl.Term{}, false
}

func plainBindOf(l []impl.Bind, name string) (impl.Term, bool) {
	for _, b := range l {
		if b.Name == name {
			return b.T, true
		}
	}
	return impl.Term{}, false
}

func plainTake(p impl.Expr, box []impl.Term) (impl.Term, []impl.Term, bool) {
	for i, x := range box {
		if _, ok := plainMatch(p, x); ok {
			return x, slices.Concat(box[:i], box[i+1:]), true
		}
	}
	return impl.Term{}, box, false
}

// termListSpans: of each list of these terms, and of the list that they stand in.
func termListSpans(l []impl.Term) []span {
	spans := listSpan(l)
	for _, x := range l {
		spans = append(spans, termListSpans(x.L)...)
	}
	return spans
}

func termTextSpans(l []impl.Term) []span {
	var spans []span
	for _, x := range l {
		spans = append(append(spans, textSpan(x.S)...), termTextSpans(x.L)...)
	}
	return spans
}

func termSpans(l []impl.Term) []span { return append(termListSpans(l), termTextSpans(l)...) }

func bindSpans(l []impl.Bind) []span {
	spans := listSpan(l)
	for _, b := range l {
		spans = append(append(append(spans, textSpan(b.Name)...), textSpan(b.T.S)...), termSpans(b.T.L)...)
	}
	return spans
}

func patternSpans(p impl.Expr) []span { return spansOf(impl.Module{Funs: []impl.Fun{{X: p}}}) }

// termsApart: a term that is answered shares no memory with an argument, nor do two of its lists, nor those of other lists that are answered with it.
func termsApart(t *testing.T, what string, x impl.Term, rest []impl.Term, args ...[]span) {
	t.Helper()
	lists := append(termListSpans(x.L), termListSpans(rest)...)
	all := append(append(lists, textSpan(x.S)...), append(termTextSpans(x.L), termTextSpans(rest)...)...)
	if meeting(all, append([]span{}, slices.Concat(args...)...)) {
		t.Fatalf("%s: the answer shares memory with an argument: %+v, %+v", what, x, rest)
	}
	if meeting(lists, nil) {
		t.Fatalf("%s: two lists of the answer share memory: %+v, %+v", what, x, rest)
	}
}

func plainCopyTerms(l []impl.Term) []impl.Term {
	var own []impl.Term
	for _, x := range l {
		x.L = plainCopyTerms(x.L)
		own = append(own, x)
	}
	return own
}

func plainCopyBinds(l []impl.Bind) []impl.Bind {
	var own []impl.Bind
	for _, b := range l {
		b.T.L = plainCopyTerms(b.T.L)
		own = append(own, b)
	}
	return own
}

// matches: what Match answers is as the witness has it, in memory of its own; it leaves its arguments as they are, and what it matched comes back by its binds.
func matches(t *testing.T, p impl.Expr, x impl.Term) ([]impl.Bind, bool) {
	t.Helper()
	want, wanted := plainMatch(p, x)
	keptP, keptX := plainCopy(p), plainCopyTerms([]impl.Term{x})[0]
	l, ok := impl.Match(p, x)
	if ok != wanted || !alikeBinds(l, want) {
		t.Fatalf("%s of %+v: %v, %+v", plainText(p), x, ok, l)
	}
	if !plainSame(p, keptP) || !alikeTerms(x, keptX) {
		t.Fatalf("%s of %+v: Match wrote into its argument", plainText(keptP), keptX)
	}
	var lists []span
	for _, b := range l {
		lists = append(lists, termListSpans(b.T.L)...)
	}
	if meeting(bindSpans(l), append([]span{}, slices.Concat(patternSpans(p), termSpans([]impl.Term{x}))...)) || meeting(append(lists, listSpan(l)...), nil) {
		t.Fatalf("%s of %+v: what Match answers shares memory", plainText(p), x)
	}
	if ok && !strings.Contains(plainText(p), "_") {
		if back, is := fills(t, p, l); !is || !alikeTerms(back, x) {
			t.Fatalf("%s of %+v comes back as %+v, %v", plainText(p), x, back, is)
		}
	}
	return l, ok
}

// fills: likewise of Fill; what it filled matches again, with the same binds.
func fills(t *testing.T, p impl.Expr, l []impl.Bind) (impl.Term, bool) {
	t.Helper()
	want, wanted := plainFill(p, l)
	keptP, keptL := plainCopy(p), plainCopyBinds(l)
	x, ok := impl.Fill(p, l)
	if ok != wanted || !alikeTerms(x, want) {
		t.Fatalf("%s by %+v: %v, %+v", plainText(p), l, ok, x)
	}
	if !plainSame(p, keptP) || !alikeBinds(l, keptL) {
		t.Fatalf("%s by %+v: Fill wrote into its argument", plainText(keptP), keptL)
	}
	termsApart(t, "Fill", x, nil, patternSpans(p), bindSpans(l))
	if !ok {
		return x, ok
	}
	var by []impl.Bind
	right := true
	for _, name := range plainVars(p) {
		y, _ := plainBindOf(l, name)
		by = append(by, bindTo(name, y))
		right = right && plainTermOk(y)
	}
	if again, is := impl.Match(p, x); !is || right && !alikeBinds(again, by) {
		t.Fatalf("%s by %+v is matched again by %+v, %v", plainText(p), l, again, is)
	}
	return x, ok
}

// takes: likewise of Take.
func takes(t *testing.T, p impl.Expr, box []impl.Term) (impl.Term, []impl.Term, bool) {
	t.Helper()
	want, left, wanted := plainTake(p, box)
	keptP, kept := plainCopy(p), plainCopyTerms(box)
	x, rest, ok := impl.Take(p, box)
	if ok != wanted || !alikeTerms(x, want) || !alikeTerms(listTerm(rest...), listTerm(left...)) {
		t.Fatalf("%s out of %+v: %v, %+v, %+v", plainText(p), box, ok, x, rest)
	}
	if !plainSame(p, keptP) || !alikeTerms(listTerm(box...), listTerm(kept...)) {
		t.Fatalf("%s out of %+v: Take wrote into its argument", plainText(keptP), kept)
	}
	termsApart(t, "Take", x, rest, patternSpans(p), termSpans(box))
	return x, rest, ok
}

// finds: likewise of BindOf.
func finds(t *testing.T, l []impl.Bind, name string) (impl.Term, bool) {
	t.Helper()
	want, wanted := plainBindOf(l, name)
	kept := plainCopyBinds(l)
	x, ok := impl.BindOf(l, name)
	if ok != wanted || !alikeTerms(x, want) || !alikeBinds(l, kept) {
		t.Fatalf("%q in %+v: %v, %+v", name, kept, ok, x)
	}
	termsApart(t, "BindOf", x, nil, bindSpans(l), textSpan(name))
	return x, ok
}

func TestMatch(t *testing.T) {
	for _, x := range []struct{ p, t, want string }{
		{"5", "5", ""}, {"0", "0", ""}, {"1000000000000", "1000000000000", ""}, {"a", "a", ""}, {"ok", "ok", ""}, {twentySmall, twentySmall, ""},
		{"X", "5", "X 5"}, {"X", "(0 - 5)", "X (0 - 5)"}, {"X", "a", "X a"}, {"X", "pid(7)", "X pid(7)"}, {"X", "{}", "X {}"}, {"X", "[]", "X []"}, {"X", "{1, [a, {}]}", "X {1, [a, {}]}"}, {"__", "1", "__ 1"}, {"_a", "1", "_a 1"},
		{"_", "5", ""}, {"_", "a", ""}, {"_", "pid(0)", ""}, {"_", "{1}", ""}, {"_", "[1]", ""}, {"{_, _}", "{1, 2}", ""}, {"[_, X, _]", "[1, 2, 3]", "X 2"}, {"{_, {_, _}, Y}", "{1, {2, 2}, 3}", "Y 3"},
		{"{}", "{}", ""}, {"[]", "[]", ""}, {"{1}", "{1}", ""}, {"[a]", "[a]", ""}, {"{X}", "{1}", "X 1"}, {"[X]", "[[]]", "X []"},
		{"{ok, X}", "{ok, {a, 1}}", "X {a, 1}"}, {"{A, B, C}", "{1, 2, 3}", "A 1; B 2; C 3"}, {"[C, A, B]", "[1, 2, 3]", "C 1; A 2; B 3"}, {"{B, {A, D}, C}", "{1, {2, 3}, 4}", "B 1; A 2; D 3; C 4"}, {"{{Z}, [Y, {X}], W}", "{{1}, [2, {3}], 4}", "Z 1; Y 2; X 3; W 4"},
		{"{X, Y}", "{a, a}", "X a; Y a"}, {"{A, Aa}", "{1, 2}", "A 1; Aa 2"},
	} {
		want := bindsFrom(t, x.want)
		if l, ok := matches(t, patternOf(t, x.p), termFrom(t, x.t)); !ok || !alikeBinds(l, want) {
			t.Errorf("%s of %s: %v, %+v", x.p, x.t, ok, l)
		}
	}
	for _, x := range []struct{ p, t string }{
		{"5", "6 4 0 55 (0-5) five pid(5) {} {5} [] [5]"}, {"0", "1 a pid(0) {} [] [0]"},
		{"a", "b aa a1 ab 0 1 pid(1) {} {a} [] [a]"}, {"ab", "a b abc"},
		{"{}", "{1} {{}} [] [{}] 0 a pid(0)"}, {"[]", "[1] [[]] {} {[]} 0 a pid(0)"},
		{"{X}", "{} {1,2} [1] [] 1 x pid(1) {1,2,3}"}, {"[X]", "[] [1,2] {1} {} 1 x pid(1) [1,2,3]"},
		{"{A,B}", "{} {1} {1,2,3} [1,2] [{1,2}] {{1,2}}"}, {"[A,B]", "[] [1] [1,2,3] {1,2} {[1,2]} [[1,2]]"},
		{"{ok,X}", "{no,1} {1,ok} {ok} {ok,1,2} [ok,1] ok"}, {"{A,{B,2},C}", "{1,{2,3},4} {1,[2,2],4} {1,2,3} {{2,2},1,4}"}, {"{_,_}", "{1} {1,2,3} [1,2]"}, {"[A,7]", "[7,6] [7]"},
	} {
		for s := range strings.SplitSeq(x.t, " ") {
			if l, ok := matches(t, patternOf(t, x.p), termFrom(t, s)); ok || len(l) != 0 {
				t.Errorf("%s of %s: %v, %+v", x.p, s, ok, l)
			}
		}
	}
}

// TestMatchRest: the rest of a list.
func TestMatchRest(t *testing.T) {
	for _, x := range []struct{ p, t, want string }{
		{"[H | T]", "[1]", "H 1; T []"}, {"[H | T]", "[1, 2]", "H 1; T [2]"}, {"[H | T]", "[1, 2, 3]", "H 1; T [2, 3]"}, {"[H | T]", "[[]]", "H []; T []"}, {"[T | H]", "[{1}, a]", "T {1}; H [a]"},
		{"[A, B | C]", "[1, 2]", "A 1; B 2; C []"}, {"[A, B | C]", "[1, 2, 3, 4]", "A 1; B 2; C [3, 4]"},
		{"[A, B, C, D, E | F]", "[1, 2, 3, 4, 5]", "A 1; B 2; C 3; D 4; E 5; F []"}, {"[A, B, C, D, E | F]", "[1, 2, 3, 4, 5, 6, 7]", "A 1; B 2; C 3; D 4; E 5; F [6, 7]"},
		{"[H | _]", "[1, 2]", "H 1"}, {"[H | _]", "[1]", "H 1"}, {"[_ | _]", "[1, 2]", ""}, {"[_ | T]", "[1, 2]", "T [2]"}, {"[1 | T]", "[1]", "T []"}, {"[a, {X} | T]", "[a, {2}, {3}]", "X 2; T [{3}]"},
		{"[H | []]", "[1]", "H 1"}, {"[H | [X]]", "[1, 2]", "H 1; X 2"}, {"[H | [X, Y]]", "[1, 2, 3]", "H 1; X 2; Y 3"}, {"[H | [2, X]]", "[1, 2, 3]", "H 1; X 3"},
		{"[A | [B | C]]", "[1, 2]", "A 1; B 2; C []"}, {"[A | [B | C]]", "[1, 2, 3]", "A 1; B 2; C [3]"}, {"[A, B | [C, D | E]]", "[1, 2, 3, 4]", "A 1; B 2; C 3; D 4; E []"}, {"[A | [B | [C | []]]]", "[1, 2, 3]", "A 1; B 2; C 3"},
		{"{[A | B], [C | D]}", "{[1, 2], [3]}", "A 1; B [2]; C 3; D []"}, {"[[A | B] | [[C | D] | E]]", "[[1, 2], [3, 4], [5]]", "A 1; B [2]; C 3; D [4]; E [[5]]"}, {"[{D, C} | {B, A}]", "[{1, 2}]", "no"},
	} {
		want := bindsFrom(t, strings.TrimPrefix(x.want, "no"))
		if l, ok := matches(t, patternOf(t, x.p), termFrom(t, x.t)); ok != (x.want != "no") || !alikeBinds(l, want) {
			t.Errorf("%s of %s: %v, %+v", x.p, x.t, ok, l)
		}
	}
	for _, x := range []struct{ p, t string }{
		{"[H|T]", "[] {} {1} {1,2} {1,[2]} 1 a pid(1)"}, {"[_|_]", "[] {} {1} 1 a pid(1)"}, {"[A,B|C]", "[] [1] {1,2} {1,2,3}"}, {"[A,B,C,D,E|F]", "[1] [1,2] [1,2,3] [1,2,3,4]"},
		{"[1|T]", "[2] [2,1] [] [[1]]"}, {"[A,2|T]", "[2,1] [2] [1,1,2]"}, {"[H|[]]", "[] [1,2] [1,[]]"}, {"[H|[X]]", "[1] [1,2,3] []"}, {"[A|[B|C]]", "[1] [] {1,2} [[1,2]]"},
		{"[H|1]", "[1] [1,1] [] 1"}, {"[H|a]", "[1] [1,a] []"}, {"[H|{}]", "[1] [1,{}] []"}, {"[H|{X}]", "[1] [1,2] [1,{2}]"}, {"[1|[2,3]]", "[1,2] [1,2,4] [1,2,3,4]"},
	} {
		for s := range strings.SplitSeq(x.t, " ") {
			if l, ok := matches(t, patternOf(t, x.p), termFrom(t, s)); ok || len(l) != 0 {
				t.Errorf("%s of %s: %v, %+v", x.p, s, ok, l)
			}
		}
	}
	// As many as a list may hold, and each number of those that are ahead.
	for many := range 61 {
		var row []impl.Term
		for i := range many {
			row = append(row, intTerm(i))
		}
		for ahead := 1; ahead <= 5; ahead++ {
			var parts []impl.Expr
			for i := range ahead {
				parts = append(parts, varX(nameNo(i)))
			}
			l, ok := matches(t, consX(append(parts, varX("T"))...), listTerm(row...))
			if ok != (many >= ahead) || ok && (len(l) != ahead+1 || l[ahead].Name != "T" || l[ahead].T.K != impl.TList || len(l[ahead].T.L) != many-ahead) {
				t.Errorf("%d ahead, of %d: %v, %+v", ahead, many, ok, l)
			}
			if l, ok = matches(t, consX(append(parts, listX())...), listTerm(row...)); ok != (many == ahead) || len(l) != ahead && ok {
				t.Errorf("%d ahead and no rest, of %d: %v, %+v", ahead, many, ok, l)
			}
			if l, ok = matches(t, consX(append(parts, intX(1))...), listTerm(row...)); ok || len(l) != 0 {
				t.Errorf("a rest that is a number: %v, %+v", ok, l)
			}
		}
	}
}

// TestMatchWrong: a pattern or a term that is not right, or both.
func TestMatchWrong(t *testing.T) {
	blank, one := varX("_"), intTerm(1)
	for _, x := range wrongTerms() {
		for _, p := range []impl.Expr{blank, varX("X"), intX(0), intX(1), atomX("a"), tupleX(), listX(), consX(blank, blank)} {
			matches(t, p, x)
			takes(t, p, []impl.Term{x})
		}
		if l, ok := impl.Match(varX("X"), x); ok || len(l) != 0 {
			t.Errorf("%+v is matched: %+v", x, l)
		}
		for _, p := range []impl.Expr{listX(blank, blank), consX(blank, blank), tupleX(varX("A"), varX("B")), consX(varX("A"), varX("B"))} {
			for _, y := range []impl.Term{listTerm(one, x), listTerm(x, one), tupleTerm(one, x), tupleTerm(x, one)} {
				if l, ok := matches(t, p, y); ok || len(l) != 0 {
					t.Errorf("%+v is matched: %+v", y, l)
				}
			}
		}
	}
	wrong := append(append(wrongExprs(), onlyExprs()...), tupleX(varX("A"), varX("A")), consX(varX("A"), varX("A")), tupleX(varX("A"), listX(varX("B"), varX("A"))), tupleX(blank, callX("f")), listX(opX("+", intX(1), intX(1))))
	for _, e := range wrong {
		for _, p := range []impl.Expr{e, tupleX(e), tupleX(blank, e), consX(e, blank), consX(blank, e)} {
			for _, x := range []impl.Term{one, intTerm(2), atomTerm("a"), atomTerm("f"), tupleTerm(), tupleTerm(one), tupleTerm(one, one), listTerm(), listTerm(one), listTerm(one, one), {}, intTerm(impl.MaxInt + 1)} {
				if l, ok := matches(t, p, x); ok || len(l) != 0 {
					t.Errorf("%+v matches %+v: %+v", p, x, l)
				}
				if y, left, ok := takes(t, p, []impl.Term{x, one}); ok || len(left) != 2 || !alikeTerms(y, impl.Term{}) {
					t.Errorf("%+v takes %+v", p, y)
				}
			}
			if y, ok := fills(t, p, []impl.Bind{bindTo("A", one), bindTo("B", listTerm()), bindTo("_", listTerm())}); ok || !alikeTerms(y, impl.Term{}) {
				t.Errorf("%+v is filled: %+v", p, y)
			}
		}
	}
	// The greatest that are right, and by one greater.
	for times := 5; times <= 11; times++ {
		p := varX("X")
		for range times {
			p = tupleX(p)
		}
		if _, ok := matches(t, p, nestedTerm(impl.TTuple, times, intTerm(5))); ok != (times <= 7) {
			t.Errorf("a pattern and a term %d deep: %v", times+1, ok)
		}
	}
	for count := 298; count <= 303; count++ {
		if l, ok := matches(t, varX("X"), countedTerm(count)); ok != (count <= 300) || ok && !alikeTerms(l[0].T, countedTerm(count)) {
			t.Errorf("a term of %d: %v", count, ok)
		}
		p := countedX(count)
		if _, ok := matches(t, p, constantTerm(p)); ok != (count <= 300) {
			t.Errorf("a pattern of %d: %v", count, ok)
		}
	}
}

// manyNames: a pattern of as many names as a term that is right may fill, and that term.
func manyNames() (impl.Expr, impl.Term) {
	var rows []impl.Expr
	var terms []impl.Term
	for i := range 15 {
		var names []impl.Expr
		var nums []impl.Term
		for k := 20 * i; k < min(20*i+20, 284); k++ {
			names = append(names, varX(nameNo(k)))
			nums = append(nums, intTerm(k))
		}
		rows = append(rows, tupleX(names...))
		terms = append(terms, tupleTerm(nums...))
	}
	return listX(rows...), listTerm(terms...)
}

func TestMatchManyNames(t *testing.T) {
	p, x := manyNames()
	if impl.CountOf(x) != 300 || !impl.PatOk(p) {
		t.Fatal(impl.CountOf(x))
	}
	l, ok := matches(t, p, x)
	if !ok || len(l) != 284 {
		t.Fatal(ok, len(l))
	}
	for i, b := range l {
		if b.Name != nameNo(i) || b.T.N != i {
			t.Errorf("%d: %+v", i, b)
		}
	}
	slices.Reverse(l)
	if back, ok := fills(t, p, l); !ok || !alikeTerms(back, x) {
		t.Error("what was matched does not come back by its binds, whatever their order")
	}
}

func TestFill(t *testing.T) {
	for _, x := range []struct{ p, l, want string }{
		{"5", "", "5"}, {"0", "A 1", "0"}, {"a", "", "a"}, {"{}", "", "{}"}, {"[]", "", "[]"}, {"{1, [a, {}]}", "", "{1, [a, {}]}"}, {"[1, 2 | [3]]", "", "[1, 2, 3]"}, {"[1 | []]", "", "[1]"}, {"[1 | [2 | [3 | []]]]", "", "[1, 2, 3]"},
		{"X", "X 5", "5"}, {"X", "X (0 - 5)", "(0 - 5)"}, {"X", "X pid(7)", "pid(7)"}, {"X", "X {1, [a]}", "{1, [a]}"}, {"X", "Y 1; X 2; Z 3", "2"}, {"__", "_ 1; __ 2; _a 3", "2"},
		{"{A, B}", "A 1; B 2", "{1, 2}"}, {"{A, B}", "B 2; A 1", "{1, 2}"}, {"{B, A}", "C 3; B 2; A 1", "{2, 1}"}, {"{A, [B, {C}], ok}", "A {}; B a; C []", "{{}, [a, {[]}], ok}"}, {"{A, Aa}", "Aa 1; A 2", "{2, 1}"},
		// The first of a Name counts.
		{"A", "A 1; A 2", "1"}, {"{A, B}", "A 1; B 2; A 3; B 4", "{1, 2}"}, {"[A | B]", "B []; A 1; B 5", "[1]"}, {"[A | B]", "B 5; A 1; B []", "no"},
		// `_` is looked for as any other name is, as often as it comes.
		{"_", "_ 5", "5"}, {"_", "", "no"}, {"_", "A 5", "no"}, {"{_, _}", "_ 5", "{5, 5}"}, {"{_, A, [_]}", "A 1; _ {2}; _ 3", "{{2}, 1, [{2}]}"}, {"{A, _}", "A 1", "no"}, {"{_, A}", "A 1", "no"}, {"A", "_ 1", "no"}, {"A", "_ 1; A 2", "2"}, {"[_ | _]", "_ [1]", "[[1], 1]"}, {"[_ | _]", "_ 1", "no"}, {"[1 | _]", "_ [2]", "[1, 2]"},
		// One that is missing.
		{"A", "", "no"}, {"A", "B 1", "no"}, {"A", "Aa 1; a 2", "no"}, {"{A, B}", "A 1", "no"}, {"{A, B}", "B 1", "no"}, {"{1, {2, A}}", "", "no"}, {"[1 | A]", "", "no"}, {"[A | []]", "", "no"}, {"[A | B]", "A 1", "no"}, {"[A | B]", "B []", "no"},
		// The last of an XCons.
		{"[A | B]", "A 1; B []", "[1]"}, {"[A | B]", "A 1; B [2]", "[1, 2]"}, {"[A | B]", "A []; B [2, []]", "[[], 2, []]"}, {"[A, 7 | B]", "B [9]; A 1", "[1, 7, 9]"}, {"[A, B, C, D, E | F]", "A 1; B 2; C 3; D 4; E 5; F [6, 7]", "[1, 2, 3, 4, 5, 6, 7]"}, {"[A | [B | C]]", "A 1; B 2; C [3]", "[1, 2, 3]"}, {"[A | [B, C]]", "A 1; B 2; C [3]", "[1, 2, [3]]"}, {"[A | [B]]", "A 1; B [2]", "[1, [2]]"},
		{"[A | B]", "A 1; B 2", "no"}, {"[A | B]", "A 1; B a", "no"}, {"[A | B]", "A 1; B pid(1)", "no"}, {"[A | B]", "A 1; B {}", "no"}, {"[A | B]", "A 1; B {2}", "no"}, {"[1 | 2]", "", "no"}, {"[1 | a]", "", "no"}, {"[1 | {}]", "", "no"}, {"[1 | {2}]", "", "no"}, {"[A | [B | C]]", "A 1; B 2; C 3", "no"}, {"{[A | 1], B}", "A 1; B 2", "no"}, {"[[1 | A] | []]", "A a", "no"}, {"[A | B]", "A [1]; B {1}", "no"},
	} {
		got, ok := fills(t, patternOf(t, x.p), bindsFrom(t, x.l))
		if x.want == "no" {
			if ok || !alikeTerms(got, impl.Term{}) {
				t.Errorf("%s by %s: %v, %+v", x.p, x.l, ok, got)
			}
			continue
		}
		if !ok || !alikeTerms(got, termFrom(t, x.want)) {
			t.Errorf("%s by %s: %v, %s", x.p, x.l, ok, impl.TermText(got))
		}
	}
}

// TestFillLimits: what is filled is a term that is right, or nothing.
func TestFillLimits(t *testing.T) {
	x := func(e impl.Term) []impl.Bind { return []impl.Bind{bindTo("X", e), bindTo("Y", intTerm(1))} }
	for many := 52; many <= 63; many++ {
		long := listTerm(timesTerm(many, intTerm(1))...)
		for ahead := 1; ahead <= 5; ahead++ {
			if y, ok := fills(t, consX(append(timesX(ahead, intX(7)), varX("X"))...), x(long)); ok != (ahead+many <= 60) || ok && len(y.L) != ahead+many {
				t.Errorf("%d ahead of %d: %v", ahead, many, ok)
			}
		}
		if _, ok := fills(t, varX("X"), x(long)); ok != (many <= 60) {
			t.Errorf("a list of %d: %v", many, ok)
		}
		if y, ok := fills(t, consX(varX("Y"), consX(varX("Z"), varX("X"))), append(x(long), bindTo("Z", atomTerm("a")))); ok != (many <= 58) || ok && len(y.L) != many+2 {
			t.Errorf("one and one ahead of %d: %v", many, ok)
		}
	}
	for deep := 1; deep <= 9; deep++ {
		inner := nestedTerm(impl.TList, deep-1, listTerm())
		for times := range 9 {
			p := varX("X")
			for range times {
				p = tupleX(p)
			}
			if y, ok := fills(t, p, x(inner)); ok != (deep+times <= 8) || ok && impl.DepthOf(y) != deep+times {
				t.Errorf("%d deep in a pattern of %d: %v", deep, times+1, ok)
			}
			// As the last of an XCons it goes no deeper.
			p = consX(intX(1), varX("X"))
			for range times {
				p = listX(p)
			}
			if y, ok := fills(t, p, x(inner)); ok != (max(deep, 2)+times <= 8) || ok && impl.DepthOf(y) != max(deep, 2)+times {
				t.Errorf("%d deep as a rest in a pattern of %d: %v", deep, times+1, ok)
			}
		}
	}
	for count := 62; count <= 303; count++ {
		inner := countedTerm(count)
		for _, more := range []int{0, 1, 2, 5, 19} {
			p := tupleX(append(timesX(more, intX(1)), varX("X"))...)
			if y, ok := fills(t, p, x(inner)); ok != (count+more+1 <= 300) || ok && impl.CountOf(y) != count+more+1 {
				t.Errorf("%d and %d: %v", count, more, ok)
			}
		}
		if _, ok := fills(t, consX(intX(1), varX("X")), x(inner)); ok != (count+1 <= 300 && len(inner.L) < 60) {
			t.Errorf("one ahead of %d: %v", count, ok)
		}
		if _, ok := fills(t, tupleX(varX("_"), varX("_")), []impl.Bind{bindTo("_", inner)}); ok != (2*count+1 <= 300) {
			t.Errorf("%d twice: %v", count, ok)
		}
	}
	// A pattern by itself is deeper, or holds more, than a term may.
	for times := range 11 {
		if _, ok := fills(t, nestedX(times, intX(1)), nil); ok != (times <= 7) {
			t.Errorf("a pattern %d deep: %v", times+1, ok)
		}
	}
	for count := 297; count <= 302; count++ {
		if _, ok := fills(t, countedX(count), nil); ok != (count <= 300) {
			t.Errorf("a pattern of %d: %v", count, ok)
		}
	}
}

// TestFillByWrongTerms: what p does not name does not count.
func TestFillByWrongTerms(t *testing.T) {
	for _, x := range wrongTerms() {
		good := bindTo("Y", intTerm(1))
		for _, l := range [][]impl.Bind{{bindTo("X", x), good}, {good, bindTo("X", x)}, {bindTo("X", x), good, bindTo("X", listTerm())}} {
			for _, p := range []impl.Expr{varX("X"), tupleX(varX("X")), listX(varX("Y"), varX("X")), consX(varX("X"), listX()), tupleX(tupleX(varX("Y"), varX("X")))} {
				if y, ok := fills(t, p, l); ok || !alikeTerms(y, impl.Term{}) {
					t.Errorf("%s by %+v: %+v", plainText(p), x, y)
				}
			}
			for _, p := range []impl.Expr{varX("Y"), tupleX(varX("Y"), intX(3)), listX(), consX(varX("Y"), listX())} {
				if _, ok := fills(t, p, l); !ok {
					t.Errorf("%s is not filled, by what it does not name: %+v", plainText(p), x)
				}
			}
			fills(t, consX(varX("Y"), varX("X")), l)
		}
		if y, ok := fills(t, varX("X"), []impl.Bind{bindTo("X", intTerm(2)), bindTo("X", x)}); !ok || y.N != 2 {
			t.Errorf("a wrong one behind: %v, %+v", ok, y)
		}
		if _, ok := fills(t, varX("_"), []impl.Bind{bindTo("_", x)}); ok {
			t.Errorf("filled by %+v", x)
		}
		for _, y := range []impl.Term{listTerm(x), listTerm(intTerm(1), x), tupleTerm(x)} {
			if _, ok := fills(t, consX(intX(1), varX("X")), []impl.Bind{bindTo("X", y)}); ok {
				t.Errorf("a rest of %+v", y)
			}
		}
	}
}

func TestBindOf(t *testing.T) {
	l := bindsFrom(t, "A 1; B [2]; A 3; _ {4}; Aa a; B 5; _ 6")
	for _, x := range []struct{ name, want string }{{"A", "1"}, {"B", "[2]"}, {"_", "{4}"}, {"Aa", "a"}} {
		if y, ok := finds(t, l, x.name); !ok || !alikeTerms(y, termFrom(t, x.want)) {
			t.Errorf("%s: %v, %+v", x.name, ok, y)
		}
	}
	for _, name := range []string{"", "a", "AA", "Ab", "C", "A ", " A", "A\x00", "__"} {
		if y, ok := finds(t, l, name); ok || !alikeTerms(y, impl.Term{}) {
			t.Errorf("%q: %v, %+v", name, ok, y)
		}
		if y, ok := finds(t, nil, name); ok || !alikeTerms(y, impl.Term{}) {
			t.Errorf("%q in none: %v, %+v", name, ok, y)
		}
	}
	if _, ok := impl.BindOf(l[:1], "B"); ok {
		t.Error("what is behind the list is read")
	}
	// The Name alone is asked for; T is handed out as it is.
	for _, x := range append(wrongTerms(), impl.Term{}, impl.Term{K: 7, N: -3, S: "X", L: []impl.Term{{K: impl.TInt, S: "s", L: []impl.Term{intTerm(1)}}}}) {
		for _, name := range []string{"A", "", "no name", "\x00"} {
			if y, ok := finds(t, []impl.Bind{bindTo("Z", intTerm(1)), bindTo(name, x), bindTo(name, intTerm(2))}, name); !ok || !alikeTerms(y, x) {
				t.Errorf("%q: %v, %+v", name, ok, y)
			}
		}
	}
}

func TestTake(t *testing.T) {
	for _, x := range []struct{ p, box, want, rest string }{
		{"{ok, _}", "[1, {ok, 1}, 2, {ok, 2}]", "{ok, 1}", "[1, 2, {ok, 2}]"}, {"{ok, _}", "[{ok, 1}, {ok, 2}]", "{ok, 1}", "[{ok, 2}]"}, {"{ok, 2}", "[{ok, 1}, {ok, 2}]", "{ok, 2}", "[{ok, 1}]"},
		{"_", "[3, 2, 1]", "3", "[2, 1]"}, {"X", "[a]", "a", "[]"}, {"1", "[1, 1, 1]", "1", "[1, 1]"}, {"3", "[1, 2, 3]", "3", "[1, 2]"}, {"2", "[1, 2, 3]", "2", "[1, 3]"},
		{"[H | T]", "[[], {1}, [1, 2], [3]]", "[1, 2]", "[[], {1}, [3]]"}, {"[]", "[[1], [], []]", "[]", "[[1], []]"}, {"{A, {B, A1}}", "[{1, 2}, {1, {2, 3}}]", "{1, {2, 3}}", "[{1, 2}]"}, {"[A, B | 1]", "[[1, 2], [1, 2, 1]]", "no", "[[1, 2], [1, 2, 1]]"},
		{"a", "[1]", "no", "[1]"}, {"a", "[]", "no", "[]"}, {"_", "[]", "no", "[]"}, {"{X}", "[{}, [1], {1, 2}, x]", "no", "[{}, [1], {1, 2}, x]"}, {"5", "[[5], {5}, a, pid(5)]", "no", "[[5], {5}, a, pid(5)]"},
	} {
		y, rest, ok := takes(t, patternOf(t, x.p), termFrom(t, x.box).L)
		want := impl.Term{}
		if x.want != "no" {
			want = termFrom(t, x.want)
		}
		if ok != (x.want != "no") || !alikeTerms(y, want) || !alikeTerms(listTerm(rest...), termFrom(t, x.rest)) {
			t.Errorf("%s out of %s: %v, %+v, %+v", x.p, x.box, ok, y, rest)
		}
	}
	for _, box := range [][]impl.Term{nil, {}, timesTerm(3, intTerm(1))[:0]} {
		if y, rest, ok := takes(t, varX("_"), box); ok || len(rest) != 0 || !alikeTerms(y, impl.Term{}) {
			t.Errorf("out of an empty box: %v, %+v, %+v", ok, y, rest)
		}
	}
	// Very many that match but for their last.
	var near []impl.Term
	for i := range 1000 {
		near = append(near, tupleTerm(intTerm(i), listTerm(), intTerm(i)))
	}
	if x, rest, ok := takes(t, tupleX(varX("A"), varX("B"), intX(999)), near); !ok || x.L[0].N != 999 || len(rest) != 999 {
		t.Error("behind many that match but for their last:", ok, x, len(rest))
	}
	// A box is no term: it has no limit of its own.
	var great []impl.Term
	for i := range 200000 {
		great = append(great, tupleTerm(intTerm(i), listTerm(atomTerm("a"))))
	}
	for _, at := range []int{0, 1, 100000, 199999} {
		x, rest, ok := impl.Take(tupleX(intX(at), varX("_")), great)
		if !ok || x.L[0].N != at || len(rest) != 199999 {
			t.Fatal(at, ok, len(rest))
		}
		for i, y := range rest {
			if i < at && y.L[0].N != i || i >= at && y.L[0].N != i+1 {
				t.Fatal("the order is not kept:", at, i, y)
			}
		}
	}
}

// TestTakeLeavesWrongTerms: those that are not TermOk are not taken, and stay where they are, as they are.
func TestTakeLeavesWrongTerms(t *testing.T) {
	wrong := wrongTerms()
	for i, x := range wrong {
		box := []impl.Term{x, intTerm(1), wrong[(i+7)%len(wrong)], atomTerm("a"), x}
		if y, rest, ok := takes(t, varX("_"), box); !ok || y.N != 1 || len(rest) != 4 || !alikeTerms(rest[0], x) || !alikeTerms(rest[3], x) {
			t.Errorf("beside %+v: %v, %+v, %+v", x, ok, y, rest)
		}
		if y, rest, ok := takes(t, atomX("b"), box); ok || len(rest) != 5 || !alikeTerms(y, impl.Term{}) || !alikeTerms(rest[4], x) {
			t.Errorf("none beside %+v: %v, %+v, %+v", x, ok, y, rest)
		}
	}
	if _, rest, ok := takes(t, varX("_"), wrong); ok || len(rest) != len(wrong) {
		t.Error("something is taken out of wrong ones alone")
	}
	if y, rest, ok := takes(t, varX("_"), append(slices.Clone(wrong), listTerm())); !ok || len(rest) != len(wrong) || !alikeTerms(y, listTerm()) {
		t.Error("the last, behind wrong ones alone:", ok, y)
	}
	for _, p := range append(wrongExprs(), onlyExprs()...) {
		if _, rest, ok := takes(t, p, wrong[:9]); ok || len(rest) != 9 {
			t.Errorf("%+v takes", p)
		}
	}
}

// mixedPattern: a pattern that matches the term, mostly: parts of it, names, and changes here and there.
func mixedPattern(r *rand.Rand, x impl.Term, count *int, wrong int) impl.Expr {
	if r.Intn(100) < wrong {
		return mixedX(r, 2, true)
	}
	if kind := r.Intn(6); kind == 0 || x.K == impl.TPid || x.K == impl.TInt && x.N < 0 || kind == 1 && r.Intn(4) == 0 {
		*count++
		if r.Intn(8) == 0 {
			return varX("_")
		}
		return varX(nameNo(*count))
	}
	switch x.K {
	case impl.TInt:
		return intX(x.N)
	case impl.TAtom:
		return atomX(x.S)
	}
	many := len(x.L)
	cons := x.K == impl.TList && many > 0 && r.Intn(2) == 0
	if cons {
		many = min(1+r.Intn(many), 5)
	}
	var parts []impl.Expr
	for _, y := range x.L[:many] {
		parts = append(parts, mixedPattern(r, y, count, wrong))
	}
	if cons {
		return consX(append(parts, mixedPattern(r, listTerm(x.L[many:]...), count, wrong))...)
	}
	if x.K == impl.TTuple {
		return tupleX(parts...)
	}
	return listX(parts...)
}

func TestMatchByAnotherWitness(t *testing.T) {
	r := rand.New(rand.NewSource(71))
	matched, filled, taken := 0, 0, 0
	for i := range 20000 {
		x, count := randomTerm(r, 1+r.Intn(5)), 0
		p := mixedPattern(r, x, &count, []int{0, 0, 5, 20}[i%4])
		if i%10 == 9 {
			p = spoiltX(r, p)
		}
		l, ok := matches(t, p, x)
		if i%4 < 2 && i%10 != 9 && !ok {
			t.Fatalf("%s does not match %+v", plainText(p), x)
		}
		if ok {
			matched++
		}
		matches(t, p, randomTerm(r, 3))
		for range r.Intn(3) {
			l = slices.Insert(l, r.Intn(len(l)+1), bindTo([]string{"_", "A", nameNo(1), nameNo(2)}[r.Intn(4)], randomTerm(r, 1+r.Intn(4))))
		}
		if len(l) > 0 && r.Intn(6) == 0 {
			l = slices.Delete(l, 0, 1)
		}
		if _, ok = fills(t, p, l); ok {
			filled++
		}
		for _, name := range []string{"_", "A", nameNo(1), nameNo(2), nameNo(3)} {
			finds(t, l, name)
		}
		box := randomTerms(int64(i), r.Intn(5), 3)
		box = slices.Insert(box, r.Intn(len(box)+1), x)
		if _, _, ok = takes(t, p, append(box, x)); ok {
			taken++
		}
	}
	if matched < 10000 || filled < 5000 || taken < 10000 {
		t.Error("too few are matched, filled or taken to tell anything:", matched, filled, taken)
	}
}

// TestMatchLeavesArgumentsAlone: and what stands behind a list's length is neither read nor written.
func TestMatchLeavesArgumentsAlone(t *testing.T) {
	build := func() ([]impl.Expr, []impl.Term, []impl.Term, []impl.Bind) {
		parts := []impl.Expr{varX("A"), intX(2), varX("B"), varX("A"), {K: 99}}
		inner := []impl.Term{intTerm(1), intTerm(2), atomTerm("a"), atomTerm("b"), intTerm(77), {K: 99}}
		box := []impl.Term{atomTerm("ahead"), {K: impl.TList, L: inner[:4]}, {K: impl.TTuple, L: inner[:2]}, {K: impl.TList, L: inner[:4]}, intTerm(77), {K: 99}}
		l := []impl.Bind{bindTo("A", box[1]), bindTo("B", box[1]), bindTo("C", intTerm(1)), bindTo("C", intTerm(77))}
		return parts, inner, box, l
	}
	parts, inner, box, l := build()
	wantParts, wantInner, wantBox, wantL := build()
	p := impl.Expr{K: impl.XCons, E: parts[:3]}
	if got, ok := matches(t, p, box[1]); !ok || !alikeBinds(got, []impl.Bind{bindTo("A", intTerm(1)), bindTo("B", listTerm(atomTerm("a"), atomTerm("b")))}) {
		t.Errorf("Match: %v, %+v", ok, got)
	}
	if got, ok := fills(t, p, l[:2]); !ok || impl.TermText(got) != "[[1,2,a,b],2,1,2,a,b]" {
		t.Errorf("Fill: %v, %+v", ok, got)
	}
	if _, ok := fills(t, varX("C"), l[:2]); ok {
		t.Error("Fill reads what is behind its binds")
	}
	if _, ok := finds(t, l[:2], "C"); ok {
		t.Error("BindOf reads what is behind its binds")
	}
	for _, at := range []int{1, 2, 3, 4} {
		takes(t, p, box[:at])
		takes(t, varX("_"), box[:at])
		takes(t, intX(77), box[:at])
	}
	if !plainSame(tupleX(parts...), tupleX(wantParts...)) || !alikeTerms(listTerm(inner...), listTerm(wantInner...)) || !alikeTerms(listTerm(box...), listTerm(wantBox...)) || !alikeBinds(l, wantL) {
		t.Error("a call wrote into its argument, or behind it")
	}
}

// TestMatchSharesNoMemory: lists that are one in an argument are apart in the answer, and answers change with nothing.
func TestMatchSharesNoMemory(t *testing.T) {
	shared := listTerm(intTerm(3), listTerm(atomTerm("a")))
	both := tupleTerm(shared, shared, listTerm(shared, shared, shared))
	if l, ok := matches(t, patternOf(t, "{A, B, [C | D]}"), both); !ok || len(l) != 4 {
		t.Fatal(ok, l)
	}
	matches(t, varX("X"), both)
	fills(t, patternOf(t, "{A, _, [_ | _], [B, 1 | C]}"), []impl.Bind{bindTo("A", shared), bindTo("_", shared), bindTo("B", shared), bindTo("C", shared)})
	finds(t, []impl.Bind{bindTo("A", both)}, "A")
	box := []impl.Term{shared, both, shared, both, {K: 99, L: shared.L}}
	for _, s := range []string{"_", "{_, _, _}", "no", "[_, X]"} {
		takes(t, patternOf(t, s), box)
	}
	takes(t, callX("f"), box)
	// A rest is no window on the list that it was in.
	long := listTerm(timesTerm(6, intTerm(1))...)
	l, _ := impl.Match(patternOf(t, "[A | T]"), long)
	for i := range l[1].T.L[:cap(l[1].T.L)] {
		l[1].T.L[:cap(l[1].T.L)][i] = intTerm(77)
	}
	if !alikeTerms(long, listTerm(timesTerm(6, intTerm(1))...)) {
		t.Error("a rest is a part of the argument")
	}
	// Texts over bytes that change.
	b := []byte("NameatomOther")
	name, atom, other := unsafe.String(&b[0], 4), unsafe.String(&b[4], 4), unsafe.String(&b[8], 5)
	x := tupleTerm(atomTerm(atom), listTerm(atomTerm(atom), atomTerm(atom)))
	l, isMatch := impl.Match(tupleX(varX(name), consX(atomX(atom), varX(other))), x)
	filled, isFilled := impl.Fill(tupleX(atomX(atom), varX(name)), []impl.Bind{bindTo(name, x)})
	bound, isBound := impl.BindOf([]impl.Bind{bindTo(name, impl.Term{K: 99, S: atom, L: []impl.Term{atomTerm(atom)}})}, name)
	one, rest, isTaken := impl.Take(atomX(atom), []impl.Term{x, atomTerm(atom), {K: 99, S: other}})
	_, whole, isNot := impl.Take(varX(atom), []impl.Term{x, atomTerm(atom), {K: 99, S: other}})
	if string(b) != "NameatomOther" {
		t.Error("a text was written into")
	}
	overwrite(b)
	x = tupleTerm(atomTerm("atom"), listTerm(atomTerm("atom"), atomTerm("atom")))
	if !isMatch || !alikeBinds(l, []impl.Bind{bindTo("Name", atomTerm("atom")), bindTo("Other", listTerm(atomTerm("atom")))}) {
		t.Errorf("Match: %v, %+v", isMatch, l)
	}
	if !isFilled || !alikeTerms(filled, tupleTerm(atomTerm("atom"), x)) {
		t.Errorf("Fill: %v, %+v", isFilled, filled)
	}
	if !isBound || !alikeTerms(bound, impl.Term{K: 99, S: "atom", L: []impl.Term{atomTerm("atom")}}) {
		t.Errorf("BindOf: %v, %+v", isBound, bound)
	}
	last := impl.Term{K: 99, S: "Other"}
	if !isTaken || !alikeTerms(one, atomTerm("atom")) || !alikeTerms(listTerm(rest...), listTerm(x, last)) {
		t.Errorf("Take: %v, %+v, %+v", isTaken, one, rest)
	}
	if isNot || !alikeTerms(listTerm(whole...), listTerm(x, atomTerm("atom"), last)) {
		t.Errorf("Take, refused: %v, %+v", isNot, whole)
	}
}

// TestMatchEndsOnAnything: arguments that are very deep, share very often, or have no end.
func TestMatchEndsOnAnything(t *testing.T) {
	const deep = 100000
	for i, x := range []impl.Term{nestedTerm(impl.TTuple, deep, intTerm(1)), nestedTerm(impl.TList, deep, intTerm(1)), doubledTerm(14, intTerm(1)), doubledTerm(40, intTerm(1)), doubledTerm(3000, atomTerm("a")), roundTerm(1), roundTerm(1, 2, 3), listTerm(timesTerm(100000, roundTerm(5))...)} {
		what := "term " + strconv.Itoa(i)
		for _, p := range []impl.Expr{varX("X"), varX("_"), tupleX(varX("X")), consX(varX("X"), varX("Y")), intX(1), impl.Expr{}} {
			if l, ok := impl.Match(p, x); ok || len(l) != 0 {
				t.Error(what, "is matched")
			}
			if y, ok := impl.Fill(p, []impl.Bind{bindTo("X", x), bindTo("_", x), bindTo("Y", x)}); ok != (p.K == impl.XInt) || !ok && y.K != 0 {
				t.Error(what, "fills")
			}
		}
		if y, ok := impl.BindOf([]impl.Bind{bindTo("A", intTerm(1)), bindTo("X", x)}, "X"); !ok || !impl.SameTerm(y, x) || meeting(listSpan(y.L), listSpan(x.L)) || meeting(listSpan(y.L[0].L), listSpan(x.L[0].L)) {
			t.Error(what, "is not handed out as it is")
		}
		y, rest, ok := impl.Take(varX("_"), []impl.Term{x, x, intTerm(1), x})
		if !ok || y.N != 1 || len(rest) != 3 || !impl.SameTerm(rest[0], x) || !impl.SameTerm(rest[2], x) || meeting(listSpan(rest[2].L), listSpan(x.L)) {
			t.Error(what, "does not stay in its box")
		}
		if _, rest, ok = impl.Take(varX("_"), []impl.Term{x}); ok || len(rest) != 1 || !impl.SameTerm(rest[0], x) || meeting(listSpan(rest[0].L), listSpan(x.L)) {
			t.Error(what, "is taken")
		}
	}
	self := []impl.Term{intTerm(1), {K: impl.TList}, intTerm(2)}
	self[1].L = self
	if y, rest, ok := impl.Take(intX(2), self); !ok || y.N != 2 || len(rest) != 2 || !impl.SameTerm(rest[1], self[1]) || meeting(listSpan(rest), listSpan(self)) || meeting(listSpan(rest[1].L), listSpan(self)) {
		t.Error("a box that holds itself")
	}
	ring := []impl.Expr{varX("A"), {K: impl.XTuple}}
	ring[1].E = ring
	nest := varX("A")
	for range deep {
		nest = tupleX(nest)
	}
	for i, p := range []impl.Expr{ring[1], nest, doubledX(40, intX(1)), doubledX(3000, varX("_")), tupleX(timesX(100000, varX("_"))...)} {
		if _, ok := impl.Match(p, tupleTerm()); ok {
			t.Error("pattern", i, "matches")
		}
		if _, ok := impl.Fill(p, []impl.Bind{bindTo("A", intTerm(1)), bindTo("_", intTerm(1))}); ok {
			t.Error("pattern", i, "is filled")
		}
		if _, rest, ok := impl.Take(p, []impl.Term{tupleTerm(), intTerm(1)}); ok || len(rest) != 2 {
			t.Error("pattern", i, "takes")
		}
	}
}

// TestOneTextVeryOften: copies of a text that stands in an argument very often would fill any memory.
func TestOneTextVeryOften(t *testing.T) {
	const many = 200000
	long := strings.Repeat("x", 4000000)
	x := listTerm(timesTerm(many, impl.Term{K: impl.TAtom, S: long})...)
	if y, ok := impl.BindOf([]impl.Bind{bindTo("A", x)}, "A"); !ok || len(y.L) != many || y.L[0].S != long || y.L[many-1].S != long {
		t.Error("BindOf:", ok, len(y.L))
	}
	if _, rest, ok := impl.Take(varX("_"), x.L); ok || len(rest) != many || rest[many-1].S != long {
		t.Error("Take:", ok, len(rest))
	}
	if l := impl.SortTerms(x.L[:10]); len(l) != 10 || l[9].S != long {
		t.Error("SortTerms:", len(l))
	}
	params := slices.Repeat([]string{long}, many)
	m := moduleX(impl.Fun{Name: long, Params: params, X: tupleX(timesX(many, atomX(long))...)})
	if y, ok := impl.Rename(m, "f", "g"); ok || y.Funs[0].Name != long || y.Funs[0].Params[many-1] != long || y.Funs[0].X.E[many-1].S != long {
		t.Error("Rename:", ok)
	}
}
