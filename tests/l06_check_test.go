package tests

import (
	"math/rand"
	"slices"
	"strconv"
	"strings"
	"testing"
	"unsafe"

	"loop.example/g00236/impl"
)

// moduleOf: the module of a text, which may be wrong for checking, but is a text.
func moduleOf(t *testing.T, s string) impl.Module {
	t.Helper()
	m, ok := readsModule(t, s)
	if !ok {
		t.Fatalf("%q is no text", s)
	}
	return m
}

// plainCalls: the chapter's words once more, as another witness.
func plainCalls(e impl.Expr) []string {
	var l []string
	for _, x := range placesX(&e) {
		if x.K == impl.XCall {
			l = append(l, x.S)
		}
	}
	return l
}

func plainRight(m impl.Module) bool {
	if !plainModuleOk(m) {
		return false
	}
	params := map[string]int{}
	for _, f := range m.Funs {
		if _, met := params[f.Name]; met {
			return false
		}
		params[f.Name] = len(f.Params)
		for i, name := range f.Params {
			if slices.Contains(f.Params[:i], name) {
				return false
			}
		}
		for _, name := range plainFree(f.X) {
			if !slices.Contains(f.Params, name) {
				return false
			}
		}
	}
	for i := range m.Funs {
		for _, x := range placesX(&m.Funs[i].X) {
			many, there := params[x.S]
			if x.K == impl.XCall && (!there || many != len(x.E)) {
				return false
			}
		}
	}
	return true
}

// plainReached goes by rounds: whoever is called by one that is reached is reached.
func plainReached(m impl.Module, name string) []string {
	reached := map[string]bool{}
	if plainRight(m) {
		for _, f := range m.Funs {
			reached[f.Name] = f.Name == name
		}
	}
	for range m.Funs {
		for _, f := range m.Funs {
			for _, to := range plainCalls(f.X) {
				reached[to] = reached[to] || reached[f.Name]
			}
		}
	}
	var l []string
	for to, is := range reached {
		if is {
			l = append(l, to)
		}
	}
	slices.Sort(l)
	return l
}

func plainCopyModule(m impl.Module) impl.Module {
	var own impl.Module
	for _, f := range m.Funs {
		own.Funs = append(own.Funs, impl.Fun{Name: f.Name, Params: slices.Clone(f.Params), X: plainCopy(f.X)})
	}
	return own
}

func plainRename(m impl.Module, from string, to string) (impl.Module, bool) {
	there := func(name string) bool {
		return slices.ContainsFunc(m.Funs, func(f impl.Fun) bool { return f.Name == name })
	}
	if !plainRight(m) || !there(from) || !impl.AtomOk(to) || slices.Contains([]string{"case", "of", "end"}, to) || there(to) {
		return m, false
	}
	own := plainCopyModule(m)
	for i := range own.Funs {
		if own.Funs[i].Name == from {
			own.Funs[i].Name = to
		}
		for _, x := range placesX(&own.Funs[i].X) {
			if x.K == impl.XCall && x.S == from {
				x.S = to
			}
		}
	}
	return own, true
}

func plainTrim(m impl.Module, name string) (impl.Module, bool) {
	names := plainReached(m, name)
	if len(names) == 0 {
		return m, false
	}
	var own impl.Module
	for _, f := range m.Funs {
		if slices.Contains(names, f.Name) {
			own.Funs = append(own.Funs, f)
		}
	}
	return own, true
}

func right(t *testing.T, l ...string) {
	t.Helper()
	for _, s := range l {
		if m := moduleOf(t, s); !impl.ModuleOk(m) || !plainRight(m) {
			t.Errorf("%q is not right", s)
		}
	}
}

func notRight(t *testing.T, l ...string) {
	t.Helper()
	for _, s := range l {
		if m := moduleOf(t, s); impl.ModuleOk(m) || plainRight(m) {
			t.Errorf("%q is right", s)
		}
	}
}

func TestModuleOk(t *testing.T) {
	right(t, "", "f() -> 1.", "f(X) -> X.", "f(X) -> 1.", "f(A, B, C, D) -> {D, C, B, A}.", "f(X) -> {X, X}.", "f(A, Aa) -> {Aa, A}.", "f(X) -> X. g(X) -> X.", "f(_a, __) -> {__, _a}.", "f(X) -> f.", "f() -> g. g() -> f.")
	// Two of one Name, whatever else is unlike in them; names that are only near to each other.
	notRight(t, "f() -> 1. f() -> 1.", "f() -> 1. f(X) -> X.", "f(X) -> X. g() -> 1. f() -> 2.", "g() -> 1. f() -> 1. f() -> f().")
	right(t, "f() -> 1. f1() -> 1. f_() -> 1. ff() -> 1.", "f(F) -> F. ff(Ff) -> Ff.")
	// A Param twice.
	notRight(t, "f(X, X) -> 1.", "f(X, Y, X) -> Y.", "f(A, B, C, C) -> 1.", "g() -> 1. f(_a, _a) -> 1.", "f(A, B, B, A) -> 1.", "f(X, X) -> X. g() -> 1.")
	right(t, "f(A, B) -> 1. g(B, A) -> 1.")
	// Names that are free.
	notRight(t, "f() -> X.", "f(X) -> Y.", "f(X) -> {X, Y}.", "f(X) -> g(Y). g(Y) -> Y.", "f(X) -> X. g() -> X.", "f() -> (A + 1).", "f(A) -> (A + B).", "f(A) -> [1 | T].", "f(Xy) -> X.", "f(X) -> Xy.", "f() -> case X of 1 -> 1 end.", "f() -> case 1 of 1 -> X end.")
	// Names that a clause binds: there alone.
	right(t, "f() -> case 1 of X -> X end.", "f(X) -> case X of X -> X end.", "f(X) -> case X of {A, B} -> {B, A}; [H | T] -> [T | H]; _ -> X end.", "f() -> case 1 of X -> case X of Y -> {X, Y} end end.", "f() -> {case 1 of X -> X end, case 2 of X -> X end}.", "f(X) -> case 1 of _ -> X end.")
	notRight(t, "f(X) -> case X of {A} -> 1; _ -> A end.", "f(X) -> case X of A -> A; B -> A end.", "f() -> {case 1 of X -> X end, X}.", "f() -> {X, case 1 of X -> X end}.", "f() -> case X of X -> X end.", "f() -> case case 1 of X -> X end of Y -> X end.", "f() -> case 1 of X -> case X of Y -> 1 end; Z -> Y end.", "f() -> (case 1 of X -> 1 end + X).", "f() -> case 1 of X -> X; 1 -> X end.")
}

func TestModuleOkCalls(t *testing.T) {
	right(t, "f() -> f().", "f(X) -> f(X).", "f() -> g(). g() -> f().", "f() -> g(h()). g(X) -> X. h() -> 1.", "f(A, B, C, D) -> f(D, C, B, A).", "f() -> g(1, 2, 3, 4). g(A, B, C, D) -> 1.", "f() -> g(f). g(X) -> f().", "f() -> case f() of f -> f(); _ -> {f(), [f() | f()], (f() + f())} end.")
	for _, wrong := range []string{"z()", "z(1)", "f()", "f(1, 2)", "f(1, 2, 3)", "g(1)", "g(1, 2)", "ff(1)", "f1()", "h(1)", "h(1, 2, 3)", "h(1, 2, 3, 4)"} {
		for _, good := range []string{"1", "f(1)", "g()", "h(f(1), g())"} {
			for _, form := range []string{"#", "{#}", "[1, #]", "[# | 1]", "[1 | #]", "(# + 1)", "(1 < #)", "f(#)", "h(#, 1)", "h(1, #)", "f(f(#))", "h(f(1), h(g(), #))", "case # of 1 -> 1 end", "case 1 of 1 -> # end", "case 1 of 1 -> #; 2 -> 2 end", "case 1 of 1 -> 1; 2 -> # end", "case f(#) of 1 -> 1 end", "case 1 of 1 -> case # of 1 -> g() end end", "case 1 of 1 -> case 1 of 1 -> {#} end end"} {
				for _, whole := range []string{"k() -> #. ", "k() -> g(). l(A, B, C) -> #. ", "k(A) -> f(A). l() -> {#, g()}. o() -> k(1). "} {
					rest := "f(X) -> X. g() -> 1. h(A, B) -> {A, B}."
					text := strings.ReplaceAll(whole, "#", form)
					right(t, strings.ReplaceAll(text, "#", good)+rest)
					notRight(t, strings.ReplaceAll(text, "#", wrong)+rest)
				}
			}
		}
	}
	// An atom, a name or a pattern is no call.
	right(t, "f() -> z.", "f(Z) -> Z.", "f() -> case z of z -> {z, z}; {z, [z | Z]} -> Z end.")
}

// TestModuleOkNeedsText: what has no text is not right, but for a module without functions.
func TestModuleOkNeedsText(t *testing.T) {
	if !impl.ModuleOk(impl.Module{}) || !impl.ModuleOk(impl.Module{Funs: []impl.Fun{}}) {
		t.Error("a module without functions")
	}
	good := funX("good", varX("A"), "A")
	for _, f := range wrongFuns() {
		for _, m := range []impl.Module{moduleX(f), moduleX(good, f), moduleX(f, good)} {
			if impl.ModuleOk(m) || impl.ModuleText(m) != "" {
				t.Errorf("%+v is right", m)
			}
		}
	}
	var m impl.Module
	for i := range 16 {
		if ok := impl.ModuleOk(m); ok != (i <= 12) {
			t.Errorf("%d functions: %v", i, ok)
		}
		if ok := impl.ModuleOk(moduleX(append(slices.Clone(m.Funs), funX("last", callX("f"+strconv.Itoa(i-1))))...)); ok != (i >= 1 && i <= 11) {
			t.Errorf("a call of the last of %d functions: %v", i, ok)
		}
		m.Funs = append(m.Funs, funX("f"+strconv.Itoa(i), intX(i)))
	}
	// More tokens than are read: it has a text, so it is right.
	great := moduleOfTokens(t, impl.MaxTokens+1)
	for i := range great.Funs {
		great.Funs[i].Name = "f" + strconv.Itoa(i)
	}
	if ok := impl.ModuleOk(great); ok != plainRight(great) {
		t.Error("a module of too many tokens to be read:", ok)
	}
}

func TestFunAt(t *testing.T) {
	m := moduleOf(t, "f() -> 1. g() -> 2. f() -> 3. h(X) -> Y. g() -> z().")
	for _, x := range []struct {
		name string
		want int
	}{{"f", 0}, {"g", 1}, {"h", 3}, {"z", -1}, {"", -1}, {"F", -1}, {"X", -1}, {"f ", -1}, {"ff", -1}, {"f()", -1}} {
		if at := impl.FunAt(m, x.name); at != x.want {
			t.Errorf("%q: %d, not %d", x.name, at, x.want)
		}
	}
	if impl.FunAt(impl.Module{}, "f") != -1 || impl.FunAt(impl.Module{}, "") != -1 {
		t.Error("a module without functions has one")
	}
	// It is asked for the Name alone, whether anything is right or not.
	odd := moduleX(impl.Fun{}, funX("A b", impl.Expr{K: 77}), funX("of", intX(-1)), funX("of", intX(1)))
	for i, name := range []string{"", "A b", "of"} {
		if at := impl.FunAt(odd, name); at != i {
			t.Errorf("%q: %d, not %d", name, at, i)
		}
	}
	var funs []impl.Fun
	for i := range 100000 {
		funs = append(funs, funX("f"+strconv.Itoa(i), intX(1)))
	}
	if impl.FunAt(moduleX(funs...), "f99999") != 99999 || impl.FunAt(moduleX(funs[:99999]...), "f99999") != -1 || impl.FunAt(impl.Module{Funs: funs[:3]}, "f3") != -1 {
		t.Error("a great module, or what is behind it")
	}
}

func TestCallsOf(t *testing.T) {
	for _, x := range []struct{ text, want string }{
		{"1", ""}, {"f", ""}, {"F", ""}, {"{}", ""}, {"[]", ""}, {"(a + B)", ""}, {"case f of g -> h end", ""},
		{"f()", "f"}, {"f(1)", "f"}, {"f(f)", "f"}, {"f(g())", "f g"}, {"f(g(), h())", "f g h"}, {"f(g(h()), k())", "f g h k"}, {"f(f(f()))", "f f f"}, {"z(y(), x(y(), z()))", "z y x y z"},
		{"{f(), g(), f()}", "f g f"}, {"[g(), f()]", "g f"}, {"[c(), b() | a()]", "c b a"}, {"(b() + a())", "b a"}, {"((d() * c()) - (b() == a()))", "d c b a"},
		{"case c() of 1 -> b(); 2 -> a() end", "c b a"}, {"case c(d()) of X -> b(X, e()); Y -> case a() of Z -> f() end end", "c d b e a f"}, {"case case a() of 1 -> b() end of 1 -> c() end", "a b c"},
		{"{case a() of 1 -> {b(), b()} end, c()}", "a b b c"}, {"case 1 of 1 -> f(case g() of 1 -> h() end); 2 -> f(2) end", "f g h f"},
	} {
		e, ok := reads(t, x.text)
		if !ok {
			t.Fatal(x.text)
		}
		tells(t, x.text, impl.CallsOf(e), x.want)
		tells(t, x.text+", by the witness", plainCalls(e), x.want)
	}
}

// TestCallsOfAnyExpr: what is not right is gone through likewise, whatever its kinds.
func TestCallsOfAnyExpr(t *testing.T) {
	a, b, c := callX("a"), callX("b"), callX("c")
	tells(t, "the zero one", impl.CallsOf(impl.Expr{}), "")
	tells(t, "too many", impl.CallsOf(callX("f", a, b, c, a, b, c)), "f a b c a b c")
	tells(t, "in a pattern", impl.CallsOf(caseX(a, clauseX(b, c), clauseX(tupleX(callX("d", a)), b))), "a b c d a b")
	tells(t, "a case without E", impl.CallsOf(impl.Expr{K: impl.XCase, C: []impl.Clause{clauseX(a, b)}}), "a b")
	tells(t, "a call with clauses", impl.CallsOf(impl.Expr{K: impl.XCall, S: "f", E: []impl.Expr{a}, C: []impl.Clause{clauseX(b, c)}}), "f a b c")
	tells(t, "the three words", impl.CallsOf(tupleX(callX("case"), callX("of", callX("end")))), "case of end")
	if l := impl.CallsOf(callX("", callX("A b"), callX("\x00"))); !slices.Equal(l, []string{"", "A b", "\x00"}) {
		t.Errorf("names that are none: %q", l)
	}
	for k := -1; k <= 11; k++ {
		want := "a b c"
		if k == impl.XCall {
			want = "f a b c"
		}
		tells(t, "kind "+strconv.Itoa(k), impl.CallsOf(impl.Expr{K: k, N: 5, S: "f", E: []impl.Expr{a}, C: []impl.Clause{clauseX(b, c)}}), want)
	}
	for _, wrong := range wrongExprs() {
		for _, e := range append(around(wrong), wrong) {
			if l := impl.CallsOf(e); !slices.Equal(l, plainCalls(e)) {
				t.Errorf("%+v: %q", e, l)
			}
		}
	}
	r := rand.New(rand.NewSource(61))
	for range 5000 {
		e := mixedX(r, 1+r.Intn(6), false)
		for _, x := range placesX(&e) {
			if x.K == impl.XCall {
				x.S = []string{"f", "g", "h"}[r.Intn(3)]
			}
		}
		for range r.Intn(3) {
			e = spoiltX(r, e)
		}
		if l := impl.CallsOf(e); !slices.Equal(l, plainCalls(e)) {
			t.Fatalf("%+v: %q, not %q", e, l, plainCalls(e))
		}
	}
}

func TestReached(t *testing.T) {
	for _, x := range []struct{ text, name, want string }{
		{"f() -> 1.", "f", "f"}, {"f() -> f().", "f", "f"}, {"f() -> f. g() -> f.", "g", "g"},
		{"f() -> g(). g() -> f().", "f", "f g"}, {"f() -> g(). g() -> f().", "g", "f g"},
		{"c() -> b(). b() -> a(). a() -> c().", "a", "a b c"}, {"c() -> b(). b() -> a(). a() -> c().", "b", "a b c"}, {"c() -> b(). b() -> a(). a() -> c().", "c", "a b c"},
		{"c() -> b(). b() -> a(). a() -> 1.", "a", "a"}, {"c() -> b(). b() -> a(). a() -> 1.", "b", "a b"}, {"c() -> b(). b() -> a(). a() -> 1.", "c", "a b c"},
		{"z() -> {y(), x()}. y() -> 1. x() -> z(). w() -> z().", "z", "x y z"}, {"z() -> {y(), x()}. y() -> 1. x() -> z(). w() -> z().", "w", "w x y z"}, {"z() -> {y(), x()}. y() -> 1. x() -> z(). w() -> z().", "y", "y"},
		{"f(X) -> case g(X) of {A} -> h(A); _ -> k() end. g(X) -> X. h(X) -> X. k() -> 1. l() -> f(1).", "f", "f g h k"},
		{"f() -> a(b(c())). a(X) -> X. b(X) -> X. c() -> d(). d() -> 1. e() -> 1.", "f", "a b c d f"},
		{"a() -> b(). b() -> a(). c() -> d(). d() -> c(). e() -> {a(), c()}.", "a", "a b"}, {"a() -> b(). b() -> a(). c() -> d(). d() -> c(). e() -> {a(), c()}.", "d", "c d"}, {"a() -> b(). b() -> a(). c() -> d(). d() -> c(). e() -> {a(), c()}.", "e", "a b c d e"},
		{"b() -> ba(). ba() -> a1(). a1() -> a(). a() -> 1.", "b", "a a1 b ba"},
		{"f() -> 1.", "g", ""}, {"f() -> 1.", "", ""}, {"f() -> 1.", "F", ""}, {"f(X) -> X.", "X", ""}, {"", "f", ""}, {"", "", ""}, {"f() -> z.", "z", ""},
		// Not right, by a fault anywhere.
		{"f() -> 1. g() -> X.", "f", ""}, {"f() -> 1. g() -> z().", "f", ""}, {"f() -> 1. f() -> 1.", "f", ""}, {"f() -> 1. g(X, X) -> 1.", "f", ""}, {"f() -> z().", "z", ""}, {"f() -> f(1).", "f", ""},
	} {
		m := moduleOf(t, x.text)
		tells(t, x.text+" from "+x.name, impl.Reached(m, x.name), x.want)
		tells(t, x.text+" from "+x.name+", by the witness", plainReached(m, x.name), x.want)
	}
	// Rings of every length, and each one calls the next.
	for many := 1; many <= 12; many++ {
		var ring, row impl.Module
		var names []string
		for i := range many {
			name := "f" + strconv.Itoa(i)
			ring.Funs = append(ring.Funs, funX(name, callX("f"+strconv.Itoa((i+1)%many))))
			row.Funs = append(row.Funs, funX(name, callX("f"+strconv.Itoa(min(i+1, many-1)))))
			names = append(names, name)
		}
		for i := range many {
			tells(t, "a ring", impl.Reached(ring, names[i]), strings.Join(slices.Sorted(slices.Values(names)), " "))
			tells(t, "a row", impl.Reached(row, names[i]), strings.Join(slices.Sorted(slices.Values(names[i:])), " "))
		}
	}
	wrong := moduleX(funX("f", intX(1)), impl.Fun{})
	if len(impl.Reached(wrong, "f")) != 0 || len(impl.Reached(wrong, "")) != 0 || len(impl.Reached(moduleX(slices.Repeat([]impl.Fun{funX("f", intX(1))}, 13)...), "f")) != 0 {
		t.Error("something is reached in what has no text")
	}
}

// renames: what Rename answers is as the witness has it, in memory of its own; and right, and as it was when it is named back.
func renames(t *testing.T, m impl.Module, from string, to string) (impl.Module, bool) {
	t.Helper()
	want, wanted := plainRename(m, from, to)
	kept := plainCopyModule(m)
	got, ok := impl.Rename(m, from, to)
	if ok != wanted || !plainSameModule(got, want) {
		t.Fatalf("%q, %s to %s: %v, %q", plainModuleText(m), from, to, ok, plainModuleText(got))
	}
	ownMemory(t, "Rename", got, spansOf(m), textSpan(from), textSpan(to))
	if !plainSameModule(m, kept) {
		t.Fatal("Rename wrote into its argument")
	}
	if ok {
		back, isBack := impl.Rename(got, to, from)
		if !impl.ModuleOk(got) || !isBack || !plainSameModule(back, m) {
			t.Fatalf("%q, %s to %s: not right, or not back: %q", plainModuleText(m), from, to, plainModuleText(back))
		}
	}
	return got, ok
}

func trims(t *testing.T, m impl.Module, name string) (impl.Module, bool) {
	t.Helper()
	want, wanted := plainTrim(m, name)
	kept := plainCopyModule(m)
	got, ok := impl.Trim(m, name)
	if ok != wanted || !plainSameModule(got, want) {
		t.Fatalf("%q, %s: %v, %q", plainModuleText(m), name, ok, plainModuleText(got))
	}
	ownMemory(t, "Trim", got, spansOf(m), textSpan(name))
	if !plainSameModule(m, kept) {
		t.Fatal("Trim wrote into its argument")
	}
	if ok {
		again, isAgain := impl.Trim(got, name)
		if !impl.ModuleOk(got) || !isAgain || !plainSameModule(again, got) || !slices.Equal(impl.Reached(got, name), impl.Reached(m, name)) {
			t.Fatalf("%q, %s: not right, or less when trimmed again: %q", plainModuleText(m), name, plainModuleText(again))
		}
	}
	return got, ok
}

// span is where a list or a text stands in memory, with the room behind it.
type span struct {
	from uintptr
	to   uintptr
}

func textSpan(s string) []span {
	from := uintptr(unsafe.Pointer(unsafe.StringData(s)))
	return []span{{from: from, to: from + uintptr(len(s))}}
}

func listSpan[T any](l []T) []span {
	var one T
	from := uintptr(unsafe.Pointer(unsafe.SliceData(l)))
	return []span{{from: from, to: from + uintptr(cap(l))*unsafe.Sizeof(one)}}
}

// listSpans: of each list in a module; texts have spans of their own, as two of them may be one.
func listSpans(m impl.Module) []span {
	l := listSpan(m.Funs)
	for i := range m.Funs {
		l = append(l, listSpan(m.Funs[i].Params)...)
		for _, x := range placesX(&m.Funs[i].X) {
			l = append(append(l, listSpan(x.E)...), listSpan(x.C)...)
		}
	}
	return l
}

func textSpans(m impl.Module) []span {
	var l []span
	for i := range m.Funs {
		l = append(l, textSpan(m.Funs[i].Name)...)
		for _, name := range m.Funs[i].Params {
			l = append(l, textSpan(name)...)
		}
		for _, x := range placesX(&m.Funs[i].X) {
			l = append(l, textSpan(x.S)...)
		}
	}
	return l
}

func spansOf(m impl.Module) []span { return append(listSpans(m), textSpans(m)...) }

// meeting: whether two of these spans, of different sides where there are two, have a byte in common.
func meeting(one []span, other []span) bool {
	type edge struct {
		at   uintptr
		side int
		step int
	}
	var l []edge
	for side, spans := range [][]span{one, other} {
		for _, s := range spans {
			if s.from < s.to {
				l = append(l, edge{at: s.from, side: side, step: 1}, edge{at: s.to, side: side, step: -1})
			}
		}
	}
	slices.SortFunc(l, func(a edge, b edge) int {
		if a.at != b.at {
			if a.at < b.at {
				return -1
			}
			return 1
		}
		return a.step - b.step
	})
	var open [2]int
	for _, e := range l {
		open[e.side] += e.step
		if other != nil && open[0] > 0 && open[1] > 0 || other == nil && open[0] > 1 {
			return true
		}
	}
	return false
}

// ownMemory: a module shares no memory with any argument, and no two of its lists share any.
func ownMemory(t *testing.T, what string, m impl.Module, args ...[]span) {
	t.Helper()
	if meeting(spansOf(m), append([]span{}, slices.Concat(args...)...)) {
		t.Fatalf("%s: the answer shares memory with an argument: %q", what, plainModuleText(m))
	}
	if meeting(listSpans(m), nil) {
		t.Fatalf("%s: two lists of the answer share memory: %q", what, plainModuleText(m))
	}
}

// TestMeeting: the witness of memory sees what is shared, and nothing else.
func TestMeeting(t *testing.T) {
	row := []impl.Expr{intX(1), intX(2), intX(3)}
	m := moduleX(funX("f", tupleX(impl.Expr{K: impl.XList, E: row[:1]}, impl.Expr{K: impl.XList, E: row[1:]})))
	if !meeting(listSpans(m), nil) {
		t.Error("room behind a list that is another one's")
	}
	m.Funs[0].X.E[0].E = row[:1:1]
	if meeting(listSpans(m), nil) || !meeting(spansOf(m), listSpan(row[2:])) || meeting(spansOf(m), spansOf(plainCopyModule(moduleX(funX("", tupleX(listX(intX(1)))))))) {
		t.Error("lists side by side, a part of one, lists apart")
	}
	if !meeting(spansOf(m), spansOf(moduleX(funX(m.Funs[0].Name, intX(1))))) || meeting(spansOf(m), textSpan("")) {
		t.Error("a text in both, an empty one")
	}
}

const renamed = "f(X) -> case f of {f, f} -> f(X); [f | F] -> {F, g(f(f), f)}; _ -> 1 end. g(A, B) -> case f(A) of f -> {f(B), ff(), [g(f(A), B) | f]}; f1 -> (f(f(A)) + f(1)) end. ff() -> f. f1() -> {f(1), ff()}."

func TestRename(t *testing.T) {
	for _, x := range []struct{ text, from, to, want string }{
		{"f() -> 1.", "f", "g", "g() -> 1.\n"}, {"f() -> f().", "f", "g", "g() -> g().\n"}, {"f() -> f.", "f", "g", "g() -> f.\n"},
		{"f(X) -> g(X, h()). g(A, B) -> case A of [H | T] -> g(T, H); _ -> B end. h() -> 1.", "g", "go", "f(X) -> go(X, h()).\ngo(A, B) -> case A of [H | T] -> go(T, H); _ -> B end.\nh() -> 1.\n"},
		{renamed, "f", "x", "x(X) -> case f of {f, f} -> x(X); [f | F] -> {F, g(x(f), f)}; _ -> 1 end.\ng(A, B) -> case x(A) of f -> {x(B), ff(), [g(x(A), B) | f]}; f1 -> (x(x(A)) + x(1)) end.\nff() -> f.\nf1() -> {x(1), ff()}.\n"},
		{renamed, "ff", twentySmall, strings.ReplaceAll(plainModuleText(moduleOf(t, renamed)), "ff(", twentySmall+"(")},
		{"a() -> b(). b() -> a().", "a", "c", "c() -> b().\nb() -> c().\n"}, {"a() -> b(). b() -> c(). c() -> a().", "b", "cases", "a() -> cases().\ncases() -> c().\nc() -> a().\n"},
	} {
		m, ok := renames(t, moduleOf(t, x.text), x.from, x.to)
		if s := impl.ModuleText(m); !ok || s != x.want {
			t.Errorf("%q, %s to %s: %v, %q", x.text, x.from, x.to, ok, s)
		}
	}
	m := moduleOf(t, renamed)
	for _, from := range []string{"f", "g", "ff", "f1"} {
		for _, to := range []string{"f", "g", "ff", "f1", "case", "of", "end", "", "F", "X", "_", "_a", "1", "1f", "f ", "f()", "aB", "é", "\x00", twentySmall + "u", "a.b"} {
			if _, ok := renames(t, m, from, to); ok {
				t.Errorf("%s to %q is done", from, to)
			}
		}
		for _, to := range []string{"h", "case1", "offer", "ends", "f_", "fff", "true", twentySmall} {
			if _, ok := renames(t, m, from, to); !ok {
				t.Errorf("%s to %q is not done", from, to)
			}
		}
	}
	for _, from := range []string{"", "h", "F", "X", "fff", "case", "f "} {
		if _, ok := renames(t, m, from, "new"); ok {
			t.Errorf("%q is renamed", from)
		}
	}
}

// notRightTexts: each has one fault, and functions beside it that could be renamed or trimmed to.
func notRightTexts() []string {
	return []string{"f() -> 1. g() -> X.", "f() -> X.", "f() -> 1. g() -> z().", "f() -> 1. f() -> 1.", "f() -> 1. g(X, X) -> {X, X}.", "f() -> f(1).", "f(X) -> f().", "g() -> 1. f(A, B, C) -> {[A | B], g(C)}.", "f(X) -> case X of {A} -> 1; _ -> A end."}
}

func TestRenameInWhatIsNotRight(t *testing.T) {
	for _, s := range notRightTexts() {
		for _, from := range []string{"f", "g", "z"} {
			if _, ok := renames(t, moduleOf(t, s), from, "new"); ok {
				t.Errorf("%q: %s is renamed", s, from)
			}
		}
	}
	if _, ok := renames(t, impl.Module{}, "f", "g"); ok {
		t.Error("nothing is renamed")
	}
	for _, wrong := range wrongFuns() {
		m := moduleX(funX("good", callX("good", varX("A")), "A"), wrong)
		if _, ok := renames(t, m, "good", "new"); ok {
			t.Errorf("renamed beside %+v", wrong)
		}
		if _, ok := renames(t, m, wrong.Name, "new"); ok {
			t.Errorf("%+v is renamed", wrong)
		}
	}
}

func TestTrim(t *testing.T) {
	for _, x := range []struct{ text, name, want string }{
		{"f() -> 1.", "f", "f() -> 1.\n"}, {"f() -> 1. g() -> f().", "f", "f() -> 1.\n"}, {"f() -> 1. g() -> f().", "g", "f() -> 1.\ng() -> f().\n"},
		{"a() -> 1. b() -> 2. c() -> 3.", "b", "b() -> 2.\n"},
		{"z() -> 1. y() -> z(). x() -> 3. w() -> {y(), w()}.", "w", "z() -> 1.\ny() -> z().\nw() -> {y(), w()}.\n"},
		{"c() -> b(). b() -> a(). a() -> c().", "a", "c() -> b().\nb() -> a().\na() -> c().\n"},
		{"d() -> a(). c() -> b(). b() -> a(). a() -> c(). e() -> d().", "b", "c() -> b().\nb() -> a().\na() -> c().\n"},
		{"f(X) -> case g(X) of {A} -> h(A); l -> k end. g(X) -> X. k() -> f(1). h(X) -> X.", "f", "f(X) -> case g(X) of {A} -> h(A); l -> k end.\ng(X) -> X.\nh(X) -> X.\n"},
	} {
		m, ok := trims(t, moduleOf(t, x.text), x.name)
		if s := impl.ModuleText(m); !ok || s != x.want {
			t.Errorf("%q, %s: %v, %q", x.text, x.name, ok, s)
		}
	}
	for _, s := range append(notRightTexts(), "", "g() -> f.") {
		for _, name := range []string{"f", "z", "", "X"} {
			if _, ok := trims(t, moduleOf(t, s), name); ok {
				t.Errorf("%q is trimmed to %q", s, name)
			}
		}
	}
	for _, wrong := range wrongFuns() {
		for _, m := range []impl.Module{moduleX(funX("good", intX(1)), wrong), moduleX(wrong, funX("good", intX(1)))} {
			if _, ok := trims(t, m, "good"); ok {
				t.Errorf("trimmed beside %+v", wrong)
			}
		}
	}
	var most impl.Module
	for i := range 12 {
		most.Funs = append(most.Funs, funX("f"+strconv.Itoa(i), callX("f"+strconv.Itoa(max(i-1, 0)))))
	}
	for i := range 12 {
		if m, ok := trims(t, most, "f"+strconv.Itoa(i)); !ok || len(m.Funs) != i+1 || m.Funs[i].Name != "f"+strconv.Itoa(i) {
			t.Errorf("%d: %v, %q", i, ok, impl.ModuleText(m))
		}
	}
	most.Funs = append(most.Funs, funX("f12", intX(1)))
	if m, ok := trims(t, most, "f0"); ok || len(m.Funs) != 13 {
		t.Error("a module of 13 functions is trimmed")
	}
}

// checkedModule: functions that call one another, most often right.
func checkedModule(r *rand.Rand) impl.Module {
	names := []string{"f", "g", "h", "ok", "b", "a"}
	r.Shuffle(len(names), func(i int, k int) { names[i], names[k] = names[k], names[i] })
	params := []string{"A", "B", "C", "D"}
	var m impl.Module
	for _, name := range names[:1+r.Intn(len(names))] {
		m.Funs = append(m.Funs, funX(name, mixedX(r, 1+r.Intn(4), false), params[:r.Intn(5)]...))
	}
	for i := range m.Funs {
		f := &m.Funs[i]
		for _, x := range placesX(&f.X) {
			to := m.Funs[r.Intn(len(m.Funs))]
			switch {
			case x.K == impl.XCall:
				x.S, x.E = to.Name, append(x.E, timesX(4, intX(1))...)[:len(to.Params)]
			case x.K == impl.XVar && x.S == "Aa" || x.K == impl.XVar && r.Intn(2) == 0:
				*x = callX(to.Name, timesX(len(to.Params), atomX(to.Name))...)
			}
		}
		for _, x := range placesX(&f.X) {
			for c := range x.C {
				x.C[c].P = mixedX(r, 1+r.Intn(2), true)
			}
		}
		for len(plainFree(f.X)) > 0 && r.Intn(40) > 0 {
			all := placesX(&f.X)
			x := all[r.Intn(len(all))]
			if x.K == impl.XVar && !slices.Contains(f.Params, x.S) {
				*x = atomX(f.Name)
			}
		}
	}
	if r.Intn(4) == 0 {
		spoilModule(r, &m)
	}
	return plainCopyModule(m)
}

// spoilModule changes one thing, most often to what is wrong.
func spoilModule(r *rand.Rand, m *impl.Module) {
	f := &m.Funs[r.Intn(len(m.Funs))]
	switch r.Intn(5) {
	case 0:
		f.Name = []string{"f", "g", "h", "case", "A"}[r.Intn(5)]
	case 1:
		f.Params = append(slices.Clone(f.Params), []string{"A", "B", "E", "_"}[r.Intn(4)])
	case 2:
		f.Params = f.Params[:r.Intn(len(f.Params)+1)]
	case 3:
		f.X = spoiltX(r, f.X)
	case 4:
		f.X = tupleX(f.X, callX([]string{"f", "g", "z"}[r.Intn(3)]))
	}
}

func TestModulesByAnotherWitness(t *testing.T) {
	r := rand.New(rand.NewSource(62))
	names := []string{"f", "g", "h", "ok", "b", "a", "new", "of"}
	good, bad, renamedOnes, trimmed, less := 0, 0, 0, 0, 0
	for range 3000 {
		m := checkedModule(r)
		if impl.ModuleOk(m) != plainRight(m) {
			t.Fatalf("%q: %v", plainModuleText(m), impl.ModuleOk(m))
		}
		if plainRight(m) {
			good++
		} else {
			bad++
		}
		for _, name := range names {
			if l := impl.Reached(m, name); !slices.Equal(l, plainReached(m, name)) {
				t.Fatalf("%q: %s reaches %q", plainModuleText(m), name, l)
			}
			at := slices.IndexFunc(m.Funs, func(f impl.Fun) bool { return f.Name == name })
			if impl.FunAt(m, name) != at {
				t.Fatalf("%q: %s is at %d", plainModuleText(m), name, impl.FunAt(m, name))
			}
		}
		if _, ok := renames(t, m, names[r.Intn(len(names))], names[r.Intn(len(names))]); ok {
			renamedOnes++
		}
		if x, ok := trims(t, m, names[r.Intn(len(names))]); ok {
			trimmed++
			if len(x.Funs) < len(m.Funs) {
				less++
			}
		}
	}
	if good < 500 || bad < 500 || renamedOnes < 150 || trimmed < 300 || less < 150 {
		t.Error(good, "right,", bad, "not,", renamedOnes, "renamed,", trimmed, "trimmed,", less, "to less")
	}
}

// TestCheckingLeavesArgumentsAlone: neither the lists nor the room behind them are written, and that room is not read.
func TestCheckingLeavesArgumentsAlone(t *testing.T) {
	build := func() (impl.Module, []string, []impl.Expr, []impl.Clause, []impl.Fun) {
		params := []string{"Z", "A", "M", "Behind", "Behind"}
		parts := []impl.Expr{varX("Z"), callX("g"), varX("Free"), callX("z")}
		clauses := []impl.Clause{clauseX(varX("C"), callX("f", varX("C"), varX("M"), varX("A"))), clauseX(varX("Q"), callX("z")), {}}
		funs := []impl.Fun{{Name: "f", Params: params[:3], X: caseX(impl.Expr{K: impl.XTuple, E: parts[:2]}, clauses[:1]...)}, {Name: "g", X: intX(1)}, {Name: "g", X: callX("z")}, {Name: "z"}}
		return impl.Module{Funs: funs[:2]}, params, parts, clauses, funs
	}
	m, params, parts, clauses, funs := build()
	_, wantParams, wantParts, wantClauses, wantFuns := build()
	if !impl.ModuleOk(m) || impl.FunAt(m, "z") != -1 {
		t.Error("what is behind a list is minded")
	}
	tells(t, "CallsOf", impl.CallsOf(m.Funs[0].X), "g f")
	tells(t, "Reached", impl.Reached(m, "f"), "f g")
	renames(t, m, "f", "z")
	renames(t, m, "g", "h")
	renames(t, m, "g", "f")
	trims(t, m, "f")
	trims(t, m, "g")
	trims(t, m, "z")
	for _, x := range []impl.Module{{Funs: funs}, {Funs: funs[:3]}, {Funs: []impl.Fun{{Name: "f", Params: params, X: impl.Expr{K: impl.XList, E: parts, C: clauses}}}}} {
		impl.ModuleOk(x)
		renames(t, x, "f", "new")
		trims(t, x, "f")
	}
	if !slices.Equal(params, wantParams) || !plainSame(impl.Expr{E: parts, C: clauses}, impl.Expr{E: wantParts, C: wantClauses}) || !plainSameModule(impl.Module{Funs: funs}, impl.Module{Funs: wantFuns}) {
		t.Error("a call wrote into its argument, or behind it")
	}
}

// TestCheckingSharesNoMemory: lists that are one in the argument, also those of a module that is refused, are apart in the answer.
func TestCheckingSharesNoMemory(t *testing.T) {
	params := []string{"A", "B"}
	both := []impl.Expr{varX("A"), varX("B")}
	clauses := []impl.Clause{clauseX(tupleX(varX("C"), varX("_")), impl.Expr{K: impl.XTuple, E: both}), clauseX(varX("_"), impl.Expr{K: impl.XCall, S: "g", E: both})}
	x := caseX(impl.Expr{K: impl.XList, E: both}, clauses...)
	y := tupleX(impl.Expr{K: impl.XCall, S: "f", E: both}, impl.Expr{K: impl.XCase, E: both[:1], C: clauses}, impl.Expr{K: impl.XList, E: both}, impl.Expr{K: impl.XList, E: both[1:]})
	m := moduleX(impl.Fun{Name: "f", Params: params, X: x}, impl.Fun{Name: "g", Params: params, X: y}, impl.Fun{Name: "h", Params: params[:1], X: both[0]})
	if !impl.ModuleOk(m) {
		t.Fatal("not right")
	}
	for _, name := range []string{"f", "g", "h", "z"} {
		trims(t, m, name)
		renames(t, m, name, "new")
		renames(t, m, name, name)
	}
	wrong := plainCopyModule(m)
	wrong.Funs = append(wrong.Funs, m.Funs...)
	renames(t, wrong, "f", "new")
	trims(t, wrong, "f")
	// Texts over bytes that change.
	b := []byte("fooAbcnew")
	name, param, to := unsafe.String(&b[0], 3), unsafe.String(&b[3], 3), unsafe.String(&b[6], 3)
	m = moduleX(funX(name, caseX(callX(name, varX(param)), clauseX(varX(param), atomX(name))), param))
	calls, reached := impl.CallsOf(m.Funs[0].X), impl.Reached(m, name)
	called := impl.Reached(moduleX(funX("g", callX(name)), funX(name, intX(1))), "g")
	there, ok := impl.Rename(m, name, to)
	left, isLeft := impl.Trim(m, name)
	same, isSame := impl.Rename(m, name, name)
	whole, isWhole := impl.Trim(m, to)
	if string(b) != "fooAbcnew" {
		t.Error("a text was written into")
	}
	overwrite(b)
	tells(t, "CallsOf", calls, "foo")
	tells(t, "Reached", reached, "foo")
	tells(t, "Reached by a call", called, "foo g")
	old := "foo(Abc) -> case foo(Abc) of Abc -> foo end.\n"
	if s := plainModuleText(there); !ok || s != "new(Abc) -> case new(Abc) of Abc -> foo end.\n" {
		t.Errorf("Rename: %v, %q", ok, s)
	}
	if s := plainModuleText(same) + plainModuleText(whole); isSame || isWhole || s != old+old {
		t.Errorf("refused: %v, %v, %q", isSame, isWhole, s)
	}
	if s := plainModuleText(left); !isLeft || s != old {
		t.Errorf("Trim: %v, %q", isLeft, s)
	}
}

// TestCheckingAnswersAreNew: the names told are in lists of their own.
func TestCheckingAnswersAreNew(t *testing.T) {
	m := moduleOf(t, "f() -> {g(), h(), g()}. g() -> 1. h() -> f().")
	for range 2 {
		calls, reached := impl.CallsOf(m.Funs[0].X), impl.Reached(m, "g")
		tells(t, "CallsOf", calls, "g h g")
		tells(t, "Reached", reached, "g")
		for _, l := range [][]string{calls, reached} {
			for i := range l[:cap(l)] {
				l[:cap(l)][i] = "spoilt"
			}
		}
	}
	right(t, plainModuleText(m))
	if plainModuleText(m) != "f() -> {g(), h(), g()}.\ng() -> 1.\nh() -> f().\n" {
		t.Error("an answer shares memory with its argument")
	}
}

// answersAsIs: a module that is refused comes back whole, however great it is.
func answersAsIs(t *testing.T, what string, m impl.Module) {
	t.Helper()
	same := func(x impl.Module) bool {
		return slices.EqualFunc(x.Funs, m.Funs, func(f impl.Fun, g impl.Fun) bool {
			return f.Name == g.Name && slices.Equal(f.Params, g.Params) && impl.SameExpr(f.X, g.X)
		})
	}
	if impl.ModuleOk(m) || len(impl.Reached(m, "f")) > 0 {
		t.Errorf("%s: right", what)
	}
	if x, ok := impl.Rename(m, "f", "new"); ok || !same(x) {
		t.Errorf("%s: Rename: %v", what, ok)
	}
	if x, ok := impl.Trim(m, "f"); ok || !same(x) {
		t.Errorf("%s: Trim: %v", what, ok)
	}
}

func TestCheckingHasNoLimit(t *testing.T) {
	tells(t, "CallsOf of a very deep one", impl.CallsOf(nestedX(1100000, callX("last"))), "last")
	const deep = 200000
	e := nestedX(deep, callX("last"))
	answersAsIs(t, "deep", moduleX(funX("f", e)))
	var want []string
	e = intX(1)
	for i := range deep / 2 {
		e = caseX(callX(nameNo(i)), clauseX(callX("p"), e))
		want = append(want, "p", nameNo(i))
	}
	slices.Reverse(want)
	if l := impl.CallsOf(e); !slices.Equal(l, want) {
		t.Error("CallsOf of deep clauses:", len(l))
	}
	answersAsIs(t, "deep clauses", moduleX(funX("f", e), funX("g", intX(1))))
	row := make([]impl.Expr, deep)
	clauses := make([]impl.Clause, deep)
	names := make([]string, deep)
	for i := range row {
		row[i] = callX(nameNo(i))
		clauses[i] = clauseX(intX(i), row[i])
		names[i] = nameNo(i)
	}
	if l := impl.CallsOf(listX(row...)); !slices.Equal(l, names) {
		t.Error("CallsOf of a wide list:", len(l))
	}
	if l := impl.CallsOf(caseX(intX(1), clauses...)); !slices.Equal(l, names) {
		t.Error("CallsOf of many clauses:", len(l))
	}
	answersAsIs(t, "wide", moduleX(funX("f", caseX(listX(row...), clauses...), names...)))
	answersAsIs(t, "many functions", impl.Module{Funs: slices.Repeat([]impl.Fun{funX("f", intX(1), "A")}, deep)})
}

// TestCallsOfSharedLists: a list that stands at several places is told at each of them.
func TestCallsOfSharedLists(t *testing.T) {
	inner := tupleX(callX("a"), callX("b"))
	tells(t, "twice", impl.CallsOf(tupleX(inner, callX("c"), inner)), "a b c a b")
	tells(t, "in a call of each", impl.CallsOf(callX("f", inner, callX("g", inner, listX(inner)), inner)), "f a b g a b a b a b")
	clauses := []impl.Clause{clauseX(callX("p"), callX("x")), clauseX(intX(1), inner)}
	shared := caseX(inner, clauses...)
	tells(t, "clauses", impl.CallsOf(tupleX(shared, shared, impl.Expr{K: impl.XCase, C: clauses[1:]}, impl.Expr{K: impl.XCase, C: clauses})), "a b p x a b a b p x a b a b p x a b")
	row := []impl.Expr{callX("a"), callX("b"), callX("c")}
	tells(t, "pieces", impl.CallsOf(tupleX(impl.Expr{K: impl.XList, E: row[:2]}, impl.Expr{K: impl.XList, E: row}, impl.Expr{K: impl.XList, E: row[1:]}, impl.Expr{K: impl.XList, E: row[:1]})), "a b a b c b c a")
	if l := impl.CallsOf(doubledX(20, inner)); len(l) != 2<<20 || l[2<<20-1] != "b" || l[2<<20-2] != "a" {
		t.Error(len(l), "calls, not", 2<<20)
	}
	if l := impl.CallsOf(doubledCase(20, "A", "B", callX("f"))); len(l) != 1<<20 {
		t.Error(len(l), "calls, not", 1<<20)
	}
	// Far too great to go through, but with few calls.
	for _, times := range []int{30, 62, 64, 2000} {
		none := doubledX(times, intX(1))
		tells(t, "none", impl.CallsOf(none), "")
		tells(t, "few", impl.CallsOf(tupleX(inner, none, inner, doubledCase(times, "A", "B", intX(1)), callX("f", none))), "a b a b f")
	}
	if l := impl.CallsOf(doubledX(64, inner)); len(l) < 2 || l[0] != "a" || l[1] != "b" {
		t.Error(len(l), "calls of what no memory would hold")
	}
	r := rand.New(rand.NewSource(63))
	for range 300 {
		e := sharedX(r, 12)
		for _, x := range placesX(&e) {
			if x.K == impl.XVar {
				x.K = impl.XCall
			}
		}
		if l := impl.CallsOf(e); !slices.Equal(l, plainCalls(e)) {
			t.Fatalf("%+v: %q, not %q", e, l, plainCalls(e))
		}
	}
}

// TestRefusedOnesAreApart: a module that is refused and shares its lists often is answered with each of them apart, as long as there is room for it.
func TestRefusedOnesAreApart(t *testing.T) {
	inner := callX("f", varX("A"))
	for _, times := range []int{1, 5, 10, 14} {
		m := moduleX(funX("f", doubledX(times, inner)), funX("f", doubledCase(times, "A", "B", inner)))
		renames(t, m, "f", "new")
		trims(t, m, "f")
	}
	for _, times := range []int{30, 64, 2000} {
		answersAsIs(t, strconv.Itoa(times)+" times", moduleX(funX("f", doubledX(times, inner)), funX("g", doubledCase(times, "A", "B", inner))))
	}
	// Two that share one list of many names, and many that do.
	names := slices.Repeat([]string{"A"}, 1000)
	renames(t, moduleX(funX("f", inner, names...), funX("g", inner, names...)), "f", "new")
	const many = 300000
	names = slices.Repeat([]string{"A"}, many)
	funs := make([]impl.Fun, many)
	for i := range funs {
		funs[i] = impl.Fun{Name: "f", Params: names, X: intX(i)}
	}
	x, ok := impl.Trim(impl.Module{Funs: funs}, "f")
	if ok || len(x.Funs) != many || !slices.Equal(x.Funs[many-1].Params, names) || x.Funs[many-1].X.N != many-1 || meeting(listSpan(x.Funs[77].Params), listSpan(names)) {
		t.Error("many functions that share their Params:", ok, len(x.Funs))
	}
}

// TestRefusedWithoutEnd: what holds itself is refused, and answered as it is, in memory of its own.
func TestRefusedWithoutEnd(t *testing.T) {
	ring := []impl.Expr{callX("a"), {K: impl.XCall, S: "r"}, callX("b")}
	ring[1].E = ring
	clauses := []impl.Clause{clauseX(callX("p"), callX("x")), clauseX(intX(1), intX(1))}
	clauses[1].X = impl.Expr{K: impl.XCase, E: ring, C: clauses}
	two := []impl.Expr{callX("one")}
	other := []impl.Expr{callX("two")}
	two[0].E, other[0].E = other, two
	if l := impl.CallsOf(impl.Expr{K: impl.XList, E: ring}); !slices.Contains(l, "a") || !slices.Contains(l, "r") || !slices.Contains(l, "b") {
		t.Errorf("a ring: %q", l)
	}
	if l := impl.CallsOf(clauses[1].X); !slices.Contains(l, "a") || !slices.Contains(l, "x") || !slices.Contains(l, "p") {
		t.Errorf("a ring of clauses: %q", l)
	}
	if l := impl.CallsOf(two[0]); !slices.Contains(l, "one") || !slices.Contains(l, "two") {
		t.Errorf("a ring of two: %q", l)
	}
	for i, e := range []impl.Expr{ring[1], clauses[1].X, two[0], tupleX(two[0], other[0]), doubledX(40, ring[1]), doubledCase(40, "A", "B", clauses[1].X)} {
		answersAsIs(t, "endless "+strconv.Itoa(i), moduleX(funX("f", e), funX("g", e)))
		answersAsIs(t, "endless "+strconv.Itoa(i)+", behind", moduleX(funX("f", intX(1)), funX("g", tupleX(e, e))))
	}
	m, ok := impl.Rename(moduleX(funX("f", impl.Expr{K: impl.XList, E: ring}), funX("g", clauses[1].X)), "f", "g")
	if l := m.Funs[0].X.E; ok || len(l) != 3 || l[1].S != "r" || len(l[1].E) != 3 || meeting(listSpan(l), listSpan(ring)) || meeting(listSpan(l[1].E), listSpan(ring)) {
		t.Error("a ring is not answered as it is")
	}
	if l := m.Funs[1].X.C; len(l) != 2 || len(l[1].X.C) != 2 || l[1].X.C[0].P.S != "p" || meeting(listSpan(l), listSpan(clauses)) || meeting(listSpan(l[1].X.C), listSpan(clauses)) {
		t.Error("a ring of clauses is not answered as it is")
	}
}
