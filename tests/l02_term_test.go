package tests

import (
	"bytes"
	"math"
	"math/rand"
	"strings"
	"testing"

	"loop.example/g00236/impl"
)

func intTerm(n int) impl.Term { return impl.Term{K: impl.TInt, N: n} }

func atomTerm(s string) impl.Term { return impl.Term{K: impl.TAtom, S: s} }

func pidTerm(n int) impl.Term { return impl.Term{K: impl.TPid, N: n} }

func tupleTerm(l ...impl.Term) impl.Term { return impl.Term{K: impl.TTuple, L: l} }

func listTerm(l ...impl.Term) impl.Term { return impl.Term{K: impl.TList, L: l} }

// timesTerm: one term so many times; what it holds is shared.
func timesTerm(n int, t impl.Term) []impl.Term {
	var l []impl.Term
	for range n {
		l = append(l, t)
	}
	return l
}

// nestedTerm: the innermost term within so many of the outer kind.
func nestedTerm(outer int, times int, inner impl.Term) impl.Term {
	for range times {
		inner = impl.Term{K: outer, L: []impl.Term{inner}}
	}
	return inner
}

// countedTerm: a list with just so many terms in all (at least 62), most of them in tuples of 4 and themselves.
func countedTerm(count int) impl.Term {
	var l []impl.Term
	for left := count - 1; left > 0; {
		size := min(left, 5)
		l = append(l, tupleTerm(timesTerm(size-1, intTerm(left))...))
		left -= size
	}
	return impl.Term{K: impl.TList, L: l}
}

// termForms: texts and bytes are worked out apart from the program.
var termForms = []struct {
	t     impl.Term
	text  string
	bytes string
	count int
	depth int
}{
	{intTerm(0), "0", "\x02\x00", 1, 1},
	{intTerm(-1), "-1", "\x02\x01", 1, 1},
	{intTerm(64), "64", "\x02\x80\x01", 1, 1},
	{intTerm(impl.MaxInt), "1000000000000", "\x02\x80\xc0\xa8\xca\x9a\x3a", 1, 1},
	{intTerm(-impl.MaxInt), "-1000000000000", "\x02\xff\xbf\xa8\xca\x9a\x3a", 1, 1},
	{atomTerm("a"), "a", "\x04\x02a", 1, 1},
	{atomTerm("z_9"), "z_9", "\x04\x06z_9", 1, 1},
	{atomTerm("abcdefghijklmnopqrst"), "abcdefghijklmnopqrst", "\x04\x28abcdefghijklmnopqrst", 1, 1},
	{pidTerm(0), "<0>", "\x06\x00", 1, 1},
	{pidTerm(7), "<7>", "\x06\x0e", 1, 1},
	{pidTerm(1000000), "<1000000>", "\x06\x80\x89\x7a", 1, 1},
	{tupleTerm(), "{}", "\x08\x00", 1, 1},
	{listTerm(), "[]", "\x0a\x00", 1, 1},
	{tupleTerm(intTerm(1)), "{1}", "\x08\x02\x02\x02", 2, 2},
	{listTerm(tupleTerm(), atomTerm("b")), "[{},b]", "\x0a\x04\x08\x00\x04\x02b", 3, 2},
	{tupleTerm(atomTerm("ok"), listTerm(pidTerm(1), intTerm(-2)), intTerm(3)), "{ok,[<1>,-2],3}", "\x08\x06\x04\x04ok\x0a\x04\x06\x02\x02\x03\x02\x06", 6, 3},
	{listTerm(listTerm(listTerm())), "[[[]]]", "\x0a\x02\x0a\x02\x0a\x00", 3, 3},
	{listTerm(listTerm(listTerm()), listTerm()), "[[[]],[]]", "\x0a\x04\x0a\x02\x0a\x00\x0a\x00", 4, 3},
	{nestedTerm(impl.TList, 7, intTerm(5)), "[[[[[[[5]]]]]]]", strings.Repeat("\x0a\x02", 7) + "\x02\x0a", 8, 8},
	{tupleTerm(timesTerm(20, intTerm(1))...), "{" + strings.Repeat("1,", 19) + "1}", "\x08\x28" + strings.Repeat("\x02\x02", 20), 21, 2},
	{listTerm(timesTerm(60, tupleTerm())...), "[" + strings.Repeat("{},", 59) + "{}]", "\x0a\x78" + strings.Repeat("\x08\x00", 60), 61, 2},
}

// wrongTerms: each has one fault alone, and the fault stands at the top.
func wrongTerms() []impl.Term {
	l := []impl.Term{
		{},
		intTerm(impl.MaxInt + 1), intTerm(-impl.MaxInt - 1), intTerm(math.MaxInt), intTerm(math.MinInt),
		atomTerm(""), atomTerm("abcdefghijklmnopqrstu"), atomTerm("A"), atomTerm("1a"), atomTerm("_a"), atomTerm("a b"), atomTerm("é"), atomTerm("a\x00"),
		pidTerm(-1), pidTerm(1000001), pidTerm(math.MinInt), pidTerm(math.MaxInt),
		tupleTerm(timesTerm(21, intTerm(1))...), listTerm(timesTerm(61, intTerm(1))...),
		nestedTerm(impl.TTuple, 8, intTerm(1)), nestedTerm(impl.TList, 8, listTerm()), nestedTerm(impl.TList, 4, nestedTerm(impl.TTuple, 4, atomTerm("a"))),
		countedTerm(301),
		{K: impl.TInt, S: "a"}, {K: impl.TInt, L: []impl.Term{intTerm(1)}},
		{K: impl.TAtom, S: "a", N: 1}, {K: impl.TAtom, S: "a", N: -1}, {K: impl.TAtom, S: "a", L: []impl.Term{intTerm(1)}},
		{K: impl.TPid, S: "a"}, {K: impl.TPid, L: []impl.Term{intTerm(1)}},
		{K: impl.TTuple, N: 1}, {K: impl.TTuple, S: "a"},
		{K: impl.TList, N: -1}, {K: impl.TList, S: "a"},
	}
	for _, k := range []int{-1, 0, 6, 7, 256 + impl.TInt, math.MinInt, math.MaxInt} {
		l = append(l, impl.Term{K: k}, impl.Term{K: k, N: 1}, impl.Term{K: k, S: "a"}, impl.Term{K: k, L: []impl.Term{intTerm(1)}})
	}
	return l
}

func TestAtomOk(t *testing.T) {
	for _, s := range []string{"a", "z", "a0", "a9", "a_", "ok", "true", "case", "a__b_1", "abcdefghijklmnopqrst", "z" + strings.Repeat("_", 19)} {
		if !impl.AtomOk(s) {
			t.Errorf("%q is an atom", s)
		}
	}
	for _, s := range []string{"", "abcdefghijklmnopqrstu", strings.Repeat("a", 21), strings.Repeat("a", 300), "ä", "aä", " a", "a ", "a\n", "a-b", "aB"} {
		if impl.AtomOk(s) {
			t.Errorf("%q is no atom", s)
		}
	}
	for c := range 256 {
		small := strings.Contains("abcdefghijklmnopqrstuvwxyz", string([]byte{byte(c)}))
		later := small || strings.Contains("0123456789_", string([]byte{byte(c)}))
		if got := impl.AtomOk(string([]byte{byte(c)})); got != small {
			t.Errorf("byte %d first: %v", c, got)
		}
		if got := impl.AtomOk(string([]byte{'m', byte(c), 'm'})); got != later {
			t.Errorf("byte %d behind: %v", c, got)
		}
		if got := impl.AtomOk(string([]byte{'m', byte(c)})); got != later {
			t.Errorf("byte %d last: %v", c, got)
		}
	}
}

func TestTermForms(t *testing.T) {
	for _, x := range termForms {
		if !impl.TermOk(x.t) {
			t.Errorf("%s is not TermOk", x.text)
		}
		if n, d := impl.CountOf(x.t), impl.DepthOf(x.t); n != x.count || d != x.depth {
			t.Errorf("%s: %d in all, %d deep", x.text, n, d)
		}
		if s := impl.TermText(x.t); s != x.text {
			t.Errorf("%s, not %s", s, x.text)
		}
		if b := impl.PutTerm(x.t); string(b) != x.bytes {
			t.Errorf("%s: %x, not %x", x.text, b, x.bytes)
		}
		if back, ok := impl.GetTerm([]byte(x.bytes)); !ok || !alikeTerms(back, x.t) {
			t.Errorf("%s: back %+v, %v", x.text, back, ok)
		}
	}
}

// alikeTerms: alike in every field, asked without the program.
func alikeTerms(a impl.Term, b impl.Term) bool {
	if a.K != b.K || a.N != b.N || a.S != b.S || len(a.L) != len(b.L) {
		return false
	}
	for i := range a.L {
		if !alikeTerms(a.L[i], b.L[i]) {
			return false
		}
	}
	return true
}

func TestWrongTerms(t *testing.T) {
	for i, wrong := range wrongTerms() {
		for _, x := range []impl.Term{wrong, tupleTerm(wrong), listTerm(intTerm(1), wrong), listTerm(listTerm(wrong), intTerm(1))} {
			if impl.TermOk(x) {
				t.Errorf("%d: %+v is TermOk", i, x)
			}
			if b := impl.PutTerm(x); len(b) != 0 {
				t.Errorf("%d: %+v is put as %x", i, x, b)
			}
			if s := impl.TermText(x); s != "" {
				t.Errorf("%d: %+v has the text %q", i, x, s)
			}
		}
	}
}

func TestEmptyListIsNoList(t *testing.T) {
	for _, x := range []impl.Term{intTerm(1), atomTerm("a"), pidTerm(1), tupleTerm(), listTerm()} {
		x.L = []impl.Term{}
		bare := x
		bare.L = nil
		if !impl.TermOk(x) || !impl.SameTerm(x, bare) || impl.CountOf(x) != 1 || impl.DepthOf(x) != 1 {
			t.Errorf("%+v", x)
		}
	}
}

func TestTermDepth(t *testing.T) {
	for _, outer := range []int{impl.TTuple, impl.TList} {
		for _, inner := range []impl.Term{intTerm(1), atomTerm("a"), pidTerm(1), tupleTerm(), listTerm()} {
			for times := range 12 {
				x := nestedTerm(outer, times, inner)
				if d := impl.DepthOf(x); d != times+1 {
					t.Errorf("%d around: %d deep", times, d)
				}
				if ok := impl.TermOk(x); ok != (times+1 <= 8) {
					t.Errorf("%d deep: %v", times+1, ok)
				}
				beside := tupleTerm(intTerm(1), x, listTerm(intTerm(2)))
				if d := impl.DepthOf(beside); d != max(3, times+2) {
					t.Errorf("%d around, among others: %d deep", times, d)
				}
				if ok := impl.TermOk(beside); ok != (times+2 <= 8) {
					t.Errorf("%d deep among others: %v", times+2, ok)
				}
			}
		}
	}
}

func TestTermCount(t *testing.T) {
	for count := 280; count <= 305; count++ {
		x := countedTerm(count)
		if n := impl.CountOf(x); n != count {
			t.Errorf("%d in all: %d", count, n)
		}
		if ok := impl.TermOk(x); ok != (count <= 300) {
			t.Errorf("%d in all: %v", count, ok)
		}
	}
}

// TestCountAndDepthOfAnyTerm: these are asked of what is not right, too.
func TestCountAndDepthOfAnyTerm(t *testing.T) {
	for _, x := range []struct {
		t            impl.Term
		count, depth int
	}{
		{impl.Term{}, 1, 1},
		{impl.Term{K: 99, L: []impl.Term{{}, {}}}, 3, 2},
		{impl.Term{K: impl.TInt, L: []impl.Term{{L: []impl.Term{{}}}, {}}}, 4, 3},
		{listTerm(timesTerm(61, intTerm(1))...), 62, 2},
		{nestedTerm(impl.TTuple, 5000, intTerm(1)), 5001, 5001},
		{listTerm(timesTerm(1000, listTerm(timesTerm(100, intTerm(math.MaxInt))...))...), 101001, 3},
	} {
		if n, d := impl.CountOf(x.t), impl.DepthOf(x.t); n != x.count || d != x.depth {
			t.Errorf("%d in all, %d deep, not %d and %d", n, d, x.count, x.depth)
		}
	}
}

// TestTermsWithoutEnd: a list that holds itself, once or often, and one that is small but shares its parts; each call must end.
func TestTermsWithoutEnd(t *testing.T) {
	for _, size := range []int{1, 2, 20, 1000} {
		l := make([]impl.Term, size)
		round := tupleTerm(l...)
		for i := range l {
			l[i] = round
		}
		if impl.TermOk(round) || len(impl.PutTerm(round)) != 0 || impl.TermText(round) != "" {
			t.Error(size, "without end is TermOk")
		}
		if impl.CountOf(round) <= 300 || size <= 20 && impl.DepthOf(round) <= 8 {
			t.Error(size, "without end has one")
		}
		if !impl.SameTerm(round, round) || impl.LessTerm(round, round) {
			t.Error(size, "without end is not the same as itself")
		}
		if impl.SameTerm(round, tupleTerm(timesTerm(size, tupleTerm())...)) || !impl.LessTerm(round, listTerm()) {
			t.Error(size, "without end is the same as another")
		}
	}
	wide := intTerm(1)
	for range 7 {
		wide = listTerm(timesTerm(60, wide)...)
	}
	if impl.TermOk(wide) || len(impl.PutTerm(wide)) != 0 || impl.TermText(wide) != "" {
		t.Error("60 in 60 in 60 .. is TermOk")
	}
}

func TestSortEndsOnWhatDoesNot(t *testing.T) {
	l := make([]impl.Term, 1)
	round := listTerm(l...)
	l[0] = round
	sorted := impl.SortTerms([]impl.Term{round, intTerm(2), intTerm(1)})
	if len(sorted) != 3 || sorted[0].N != 1 || sorted[1].N != 2 || sorted[2].K != impl.TList {
		t.Error("sorted", len(sorted))
	}
}

// doubledTerm: the innermost in a list twice, that in a list twice .., so many times around; each list is there once, and shared.
func doubledTerm(times int, inner impl.Term) impl.Term {
	for range times {
		inner = listTerm(inner, inner)
	}
	return inner
}

// TestTermsHaveNoLimit: what is asked of any term is told however deep it is.
func TestTermsHaveNoLimit(t *testing.T) {
	const deep = 1100000
	x, y := nestedTerm(impl.TTuple, deep, intTerm(1)), nestedTerm(impl.TTuple, deep, intTerm(2))
	if n := impl.CountOf(x); n != deep+1 {
		t.Error(n, "in all")
	}
	if d := impl.DepthOf(y); d != deep+1 {
		t.Error(d, "deep")
	}
	if impl.SameTerm(x, y) {
		t.Error("two that are unlike at", deep, "are the same")
	}
	sorted := impl.SortTerms([]impl.Term{y, x})
	for i, last := range []int{1, 2} {
		inner := sorted[i]
		around := 0
		for len(inner.L) > 0 {
			inner = inner.L[0]
			around++
		}
		if around != deep || inner.N != last {
			t.Error(i, "sorted:", inner.N, "within", around)
		}
	}
}

// TestWideTermsHaveNoLimit: the same, however many stand side by side.
func TestWideTermsHaveNoLimit(t *testing.T) {
	row := make([]impl.Term, 4000002)
	for i := range row {
		row[i] = intTerm(3)
	}
	x, y := listTerm(row[:4000001]...), listTerm(row...)
	if n, d := impl.CountOf(x), impl.DepthOf(x); n != 4000002 || d != 2 {
		t.Error(n, "in all,", d, "deep")
	}
	if impl.SameTerm(x, y) || !impl.LessTerm(x, y) {
		t.Error("the last one does not count")
	}
	if sorted := impl.SortTerms([]impl.Term{x}); len(sorted[0].L) != 4000001 || sorted[0].L[4000000].N != 3 {
		t.Error(len(sorted[0].L), "of 4000001 are sorted")
	}
}

// TestTermsThatShareOften: these are far too great to go through, but have an end.
func TestTermsThatShareOften(t *testing.T) {
	for _, times := range []int{3, 30, 61, 62, 63, 64, 200} {
		x, same := doubledTerm(times, intTerm(1)), doubledTerm(times, intTerm(1))
		want := math.MaxInt
		if times < 62 {
			want = 1<<(times+1) - 1
		}
		if n, d := impl.CountOf(x), impl.DepthOf(x); n != want || d != times+1 {
			t.Error(times, "around:", n, "in all,", d, "deep")
		}
		more, deeper := doubledTerm(times, intTerm(2)), doubledTerm(times+1, intTerm(1))
		if !impl.SameTerm(x, same) || impl.LessTerm(x, same) {
			t.Error(times, "around: not the same")
		}
		if impl.SameTerm(x, more) || !impl.LessTerm(x, more) || !impl.LessTerm(x, deeper) || impl.LessTerm(deeper, x) {
			t.Error(times, "around: out of order")
		}
		last := listTerm(x, listTerm(x, more))
		if impl.SameTerm(listTerm(x, listTerm(x, same)), last) || !impl.LessTerm(listTerm(same, listTerm(x, x)), last) {
			t.Error(times, "around: the last one does not count")
		}
	}
	wide, count := intTerm(1), 1
	for range 7 {
		wide, count = listTerm(timesTerm(60, wide)...), 60*count+1
	}
	if n, d := impl.CountOf(wide), impl.DepthOf(wide); n != count || d != 8 {
		t.Error(n, "in all,", d, "deep, not", count)
	}
}

// TestTermsOfPieces: lists that begin at one place, but are not as long, are not one list.
func TestTermsOfPieces(t *testing.T) {
	row := timesTerm(700, intTerm(1))
	var pieces, apart []impl.Term
	count := 1
	for size := range 700 {
		pieces = append(pieces, listTerm(row[:size]...))
		apart = append(apart, listTerm(timesTerm(size, intTerm(1))...))
		count += 1 + size
	}
	x, y := listTerm(pieces...), listTerm(apart...)
	if n := impl.CountOf(x); n != count {
		t.Error(n, "in all, not", count)
	}
	if !impl.SameTerm(x, y) {
		t.Error("pieces are not the same as lists apart")
	}
	swapped := listTerm(append(timesTerm(698, listTerm(row...)), pieces[698], pieces[699])...)
	other := listTerm(append(timesTerm(698, listTerm(row...)), pieces[698], pieces[698])...)
	if impl.SameTerm(swapped, other) || !impl.LessTerm(other, swapped) {
		t.Error("a piece is the same as a longer one")
	}
	far := doubledTerm(40, listTerm(pieces[3], pieces[5]))
	if sorted := impl.SortTerms([]impl.Term{far}); !impl.SameTerm(sorted[0], far) || impl.SameTerm(sorted[0], doubledTerm(40, listTerm(pieces[3], pieces[3]))) {
		t.Error("pieces are not sorted whole")
	}
}

func TestSortOfTermsThatShareOften(t *testing.T) {
	for _, times := range []int{10, 40, 100} {
		x, kept := doubledTerm(times, intTerm(1)), doubledTerm(times, intTerm(1))
		sorted := impl.SortTerms([]impl.Term{x, intTerm(0)})
		if len(sorted) != 2 || !impl.SameTerm(sorted[1], kept) {
			t.Fatal(times, "around: sorted is not the same")
		}
		for l := x.L; len(l) > 0; l = l[0].L {
			l[1] = intTerm(77)
		}
		if !impl.SameTerm(sorted[1], kept) {
			t.Error(times, "around: sorted shares memory with its argument")
		}
	}
	x := doubledTerm(12, intTerm(1))
	sorted := impl.SortTerms([]impl.Term{x})
	sorted[0].L[0].L[0].L[0] = intTerm(5)
	if !impl.SameTerm(sorted[0].L[1], x.L[1]) || !impl.SameTerm(sorted[0].L[0].L[1], x.L[1].L[1]) {
		t.Error("two lists of what is sorted share memory")
	}
}

// roundTerm: lists that hold each other in a ring, each with a number behind; without an end.
func roundTerm(nums ...int) impl.Term {
	ring := make([]impl.Term, len(nums))
	for i := range ring {
		ring[i] = listTerm(intTerm(0), intTerm(nums[i]))
	}
	for i := range ring {
		ring[i].L[0] = ring[(i+1)%len(ring)]
	}
	return ring[0]
}

// TestOrderOfTermsWithoutEnd: those that are alike however far one goes are the same, and of others one is less.
func TestOrderOfTermsWithoutEnd(t *testing.T) {
	if n, d := impl.CountOf(roundTerm(1, 2)), impl.DepthOf(roundTerm(1, 2)); n != math.MaxInt || d != math.MaxInt {
		t.Error(n, "in all,", d, "deep")
	}
	long := make([]int, 500)
	for i := range long {
		long[i] = 7
	}
	seven := roundTerm(long...)
	long[450] = 8
	for _, x := range []struct {
		a, b impl.Term
		same bool
	}{
		{roundTerm(7), roundTerm(7), true},
		{roundTerm(7), roundTerm(7, 7), true},
		{roundTerm(7, 7, 7), roundTerm(7, 7), true},
		{roundTerm(1, 2), roundTerm(1, 2, 1, 2, 1, 2), true},
		{roundTerm(7), seven, true},
		{roundTerm(7), roundTerm(8), false},
		{roundTerm(1, 2), roundTerm(2, 1), false},
		{roundTerm(1, 2), roundTerm(1, 2, 1), false},
		{roundTerm(7), roundTerm(long...), false},
		{seven, roundTerm(long...), false},
		{roundTerm(7), nestedTerm(impl.TList, 2000, intTerm(7)), false},
		{roundTerm(7), doubledTerm(2000, intTerm(7)), false},
	} {
		less, more := impl.LessTerm(x.a, x.b), impl.LessTerm(x.b, x.a)
		if impl.SameTerm(x.a, x.b) != x.same || less && more || x.same == (less || more) {
			t.Errorf("same %v: %v, %v, %v", x.same, impl.SameTerm(x.a, x.b), less, more)
		}
	}
	x := roundTerm(3, 4)
	sorted := impl.SortTerms([]impl.Term{x})
	x.L[0].L[1].N = 5
	if !impl.SameTerm(sorted[0], roundTerm(3, 4)) || !impl.SameTerm(x, roundTerm(3, 5)) {
		t.Error("one without end is not sorted whole, or shares memory")
	}
}

func TestGetTermWrong(t *testing.T) {
	for _, s := range []string{
		"", "\x00", "\x00\x00", "\x02", "\x04", "\x06", "\x08", "\x0a", // nothing, a kind of 0, kinds alone
		"\x01\x00", "\x03\x00", "\x0c\x00", "\x0e\x00", "\x80\x01\x00", // kinds that are none
		"\x82\x00\x00", "\x02\x82\x00", "\x08\x80\x00", "\x04\x82\x00a", // needless groups
		"\x04\x00", "\x04\x02A", "\x04\x021", "\x04\x02_", "\x04\x04a", "\x04\x01a", "\x04\x2aabcdefghijklmnopqrstu", // atoms
		"\x06\x01", "\x06\x82\x89\x7a", // pids of -1 and of 1000001
		"\x02\x82\xc0\xa8\xca\x9a\x3a", "\x02\x81\xc0\xa8\xca\x9a\x3a", // beyond MaxInt
		"\x08\x02", "\x08\x01", "\x0a\x04\x02\x00", "\x0a\x01", "\x08\x03\x02\x00", // parts that are not there, or fewer than none
		"\x08\x2a" + strings.Repeat("\x02\x02", 21), "\x0a\x7a" + strings.Repeat("\x02\x02", 61), // too many
		"\x08\x80\xc0\xa8\xca\x9a\x3a\x02\x02",                                                 // a tuple of MaxInt
		strings.Repeat("\x0a\x02", 8) + "\x02\x0a", strings.Repeat("\x08\x02", 8) + "\x08\x00", // 9 deep
		strings.Repeat("\x0a\x02", 6000000) + "\x02\x0a",                          // deeper than a stack holds
		"\x0a\x0a" + strings.Repeat("\x0a\x76"+strings.Repeat("\x02\x00", 59), 5), // 301 in all
		"\x0a\x04\x02\x00\x02", "\x0a\x04\x02\x00\x00\x00",
	} {
		if x, ok := impl.GetTerm([]byte(s)); ok || !alikeTerms(x, impl.Term{}) {
			t.Errorf("%.40x: %+v, %v", s, x, ok)
		}
	}
	full := "\x0a\x0a" + strings.Repeat("\x0a\x76"+strings.Repeat("\x02\x00", 59), 4) + "\x0a\x74" + strings.Repeat("\x02\x00", 58)
	if x, ok := impl.GetTerm([]byte(full)); !ok || impl.CountOf(x) != 300 {
		t.Error("300 in all", ok)
	}
}

func TestGetTermAlone(t *testing.T) {
	for _, x := range termForms {
		whole := []byte(x.bytes)
		for size := range len(whole) {
			if back, ok := impl.GetTerm(whole[:size]); ok || !alikeTerms(back, impl.Term{}) {
				t.Errorf("%s: %d of its bytes are read", x.text, size)
			}
		}
		for _, more := range []string{"\x00", "\x02\x00", "\x80", x.bytes} {
			if back, ok := impl.GetTerm([]byte(x.bytes + more)); ok || !alikeTerms(back, impl.Term{}) {
				t.Errorf("%s: read with %x behind", x.text, more)
			}
		}
	}
}

// TestTermHasOneForm: what is read of any bytes is right, and put as just these.
func TestTermHasOneForm(t *testing.T) {
	read := 0
	for size := 0; size <= 6; size++ {
		for b := range rowsOf([]byte{0, 1, 2, 4, 6, 8, 10, 'a', 0x80}, size) {
			x, ok := impl.GetTerm(b)
			if !ok {
				if !alikeTerms(x, impl.Term{}) {
					t.Fatalf("%x: false beside %+v", b, x)
				}
				continue
			}
			read++
			if !impl.TermOk(x) || !bytes.Equal(impl.PutTerm(x), b) {
				t.Fatalf("%x: %+v is put as %x", b, x, impl.PutTerm(x))
			}
		}
	}
	if read < 500 {
		t.Error("only", read, "are read")
	}
}

// randomTerm: a term of at most this depth, mostly TermOk; the same seed gives the same ones.
func randomTerm(r *rand.Rand, deep int) impl.Term {
	kind := r.Intn(5)
	if deep < 2 {
		kind = r.Intn(3)
	}
	switch kind {
	case 0:
		return intTerm([]int{0, 1, -1, 64, -impl.MaxInt, impl.MaxInt, r.Intn(200) - 100}[r.Intn(7)])
	case 1:
		return atomTerm([]string{"a", "b", "ab", "a_", "a1", "aa", "abcdefghijklmnopqrst"}[r.Intn(7)])
	case 2:
		return pidTerm([]int{0, 1, 2, 1000000}[r.Intn(4)])
	}
	x := impl.Term{K: impl.TTuple + r.Intn(2)}
	for range r.Intn(4) {
		x.L = append(x.L, randomTerm(r, deep-1))
	}
	return x
}

func randomTerms(seed int64, count int, deep int) []impl.Term {
	r := rand.New(rand.NewSource(seed))
	var l []impl.Term
	for range count {
		l = append(l, randomTerm(r, deep))
	}
	return l
}

func TestTermsComeBack(t *testing.T) {
	for _, x := range randomTerms(1, 5000, 5) {
		if back, ok := impl.GetTerm(impl.PutTerm(x)); !ok || !alikeTerms(back, x) {
			t.Fatalf("%+v came back as %+v, %v", x, back, ok)
		}
	}
	for _, x := range []impl.Term{countedTerm(300), nestedTerm(impl.TTuple, 7, listTerm())} {
		if back, ok := impl.GetTerm(impl.PutTerm(x)); !ok || !alikeTerms(back, x) {
			t.Errorf("%s came back as %s", impl.TermText(x), impl.TermText(back))
		}
	}
}

// risingTerms: each is less than all behind it.
func risingTerms() []impl.Term {
	return []impl.Term{
		intTerm(-impl.MaxInt), intTerm(-10), intTerm(-9), intTerm(0), intTerm(9), intTerm(10), intTerm(impl.MaxInt),
		atomTerm("a"), atomTerm("a0"), atomTerm("a9"), atomTerm("a_"), atomTerm("aa"), atomTerm("aaa"), atomTerm("ab"), atomTerm("b"), atomTerm("z"),
		pidTerm(0), pidTerm(9), pidTerm(10), pidTerm(1000000),
		tupleTerm(),
		tupleTerm(intTerm(5)), tupleTerm(atomTerm("a")), tupleTerm(pidTerm(0)), tupleTerm(tupleTerm(listTerm())), tupleTerm(listTerm()),
		tupleTerm(intTerm(1), intTerm(9)), tupleTerm(intTerm(2), intTerm(0)), tupleTerm(intTerm(2), intTerm(1)), tupleTerm(atomTerm("a"), intTerm(0)),
		tupleTerm(intTerm(0), intTerm(0), intTerm(0)), tupleTerm(intTerm(0), intTerm(0), intTerm(1)), tupleTerm(intTerm(0), intTerm(1), intTerm(0)),
		listTerm(),
		listTerm(intTerm(1)), listTerm(intTerm(1), intTerm(-5)), listTerm(intTerm(1), intTerm(-5), intTerm(-9)), listTerm(intTerm(1), intTerm(7)), listTerm(intTerm(2)), listTerm(intTerm(2), intTerm(0)),
		listTerm(atomTerm("a"), intTerm(0)), listTerm(atomTerm("b")), listTerm(tupleTerm(intTerm(1), intTerm(1))),
		listTerm(listTerm()), listTerm(listTerm(), intTerm(1)), listTerm(listTerm(intTerm(1))), listTerm(listTerm(intTerm(1), intTerm(1))), listTerm(listTerm(intTerm(2))),
	}
}

func TestTermOrder(t *testing.T) {
	row, copies := risingTerms(), risingTerms()
	for i := range row {
		for k := range copies {
			if less := impl.LessTerm(row[i], copies[k]); less != (i < k) {
				t.Errorf("%s less than %s: %v", impl.TermText(row[i]), impl.TermText(copies[k]), less)
			}
			if same := impl.SameTerm(row[i], copies[k]); same != (i == k) {
				t.Errorf("%s same as %s: %v", impl.TermText(row[i]), impl.TermText(copies[k]), same)
			}
		}
	}
}

// TestOfTwoUnlikeOneIsLess: of any two right terms, and what is less than a less one is less.
func TestOfTwoUnlikeOneIsLess(t *testing.T) {
	l := randomTerms(2, 120, 3)
	for _, a := range l {
		for _, b := range l {
			less, more, same := impl.LessTerm(a, b), impl.LessTerm(b, a), impl.SameTerm(a, b)
			if same != alikeTerms(a, b) || same == (less || more) || less && more {
				t.Fatalf("%s and %s: %v, %v, %v", impl.TermText(a), impl.TermText(b), less, more, same)
			}
			for _, c := range l {
				if less && impl.LessTerm(b, c) && !impl.LessTerm(a, c) {
					t.Fatalf("%s, %s, %s", impl.TermText(a), impl.TermText(b), impl.TermText(c))
				}
			}
		}
	}
}

// TestOrderOfWrongTerms: the order goes by what a kind names alone, of whatever it is given.
func TestOrderOfWrongTerms(t *testing.T) {
	for _, x := range []struct {
		a, b impl.Term
		way  int
	}{
		{impl.Term{}, impl.Term{}, 0},
		{impl.Term{K: -1}, impl.Term{}, -1},
		{impl.Term{}, intTerm(math.MinInt), -1},
		{impl.Term{K: 6}, listTerm(intTerm(1)), 1},
		{impl.Term{K: math.MinInt}, impl.Term{K: math.MaxInt}, -1},
		{intTerm(math.MinInt), intTerm(math.MaxInt), -1},
		{pidTerm(math.MinInt), pidTerm(-1), -1},
		{atomTerm(""), atomTerm("\x00"), -1},
		{atomTerm("\x7f"), atomTerm("\xff"), -1},
		{atomTerm("B"), atomTerm("a"), -1},
		{tupleTerm(timesTerm(20, listTerm())...), tupleTerm(timesTerm(21, intTerm(0))...), -1},
		{listTerm(timesTerm(61, intTerm(0))...), listTerm(intTerm(1)), -1},
		{impl.Term{K: impl.TInt, N: 1, S: "b"}, impl.Term{K: impl.TInt, N: 1, S: "a"}, 0},
		{impl.Term{K: impl.TInt, N: 1, L: []impl.Term{{}}}, intTerm(1), 0},
		{impl.Term{K: impl.TAtom, S: "a", N: 5}, atomTerm("a"), 0},
		{impl.Term{K: impl.TTuple, N: 5, S: "x"}, tupleTerm(), 0},
		{impl.Term{K: 9, N: 5, S: "x"}, impl.Term{K: 9}, 0},
		{impl.Term{K: 9, L: []impl.Term{{}}}, impl.Term{K: 9}, 0},
	} {
		if less, more := impl.LessTerm(x.a, x.b), impl.LessTerm(x.b, x.a); less != (x.way < 0) || more != (x.way > 0) {
			t.Errorf("%+v and %+v: %v, %v", x.a, x.b, less, more)
		}
		if impl.SameTerm(x.a, x.b) != (x.way == 0) || impl.SameTerm(x.b, x.a) != (x.way == 0) {
			t.Errorf("%+v and %+v: the same", x.a, x.b)
		}
	}
}

func TestSortTerms(t *testing.T) {
	row := risingTerms()
	for seed := range int64(20) {
		mixed := risingTerms()
		rand.New(rand.NewSource(seed)).Shuffle(len(mixed), func(i, k int) { mixed[i], mixed[k] = mixed[k], mixed[i] })
		sorted := impl.SortTerms(mixed)
		if len(sorted) != len(row) {
			t.Fatal(len(sorted), "of", len(row))
		}
		for i := range row {
			if !alikeTerms(sorted[i], row[i]) {
				t.Fatalf("%d: %s, not %s", i, impl.TermText(sorted[i]), impl.TermText(row[i]))
			}
		}
	}
	if l := impl.SortTerms(nil); len(l) != 0 {
		t.Error("of none", l)
	}
	if l := impl.SortTerms([]impl.Term{intTerm(5)}); len(l) != 1 || !alikeTerms(l[0], intTerm(5)) {
		t.Error("of one", l)
	}
}

// TestSortKeepsOrderOfSame: those that are the same are told apart by a field that their kind does not name.
func TestSortKeepsOrderOfSame(t *testing.T) {
	for _, size := range []int{2, 3, 10, 13, 50, 200} {
		var l []impl.Term
		for i := range size {
			l = append(l, impl.Term{K: impl.TAtom, S: string(rune('a' + (size-i)%3)), N: i})
		}
		sorted := impl.SortTerms(l)
		if len(sorted) != size {
			t.Fatal(len(sorted), "of", size)
		}
		for i := 1; i < size; i++ {
			ahead, behind := sorted[i-1], sorted[i]
			if ahead.S > behind.S || ahead.S == behind.S && ahead.N >= behind.N {
				t.Errorf("%d of %d: %+v ahead of %+v", i, size, ahead, behind)
			}
		}
	}
}

// TestSortHandsOutWhole: what is not right is sorted, too, with all its fields.
func TestSortHandsOutWhole(t *testing.T) {
	odd := impl.Term{K: 7, N: -3, S: "X", L: []impl.Term{{K: impl.TInt, S: "s", L: []impl.Term{intTerm(1)}}}}
	sorted := impl.SortTerms([]impl.Term{odd, listTerm(), {K: -7, N: 9}})
	if len(sorted) != 3 || !alikeTerms(sorted[0], impl.Term{K: -7, N: 9}) || !alikeTerms(sorted[1], listTerm()) || !alikeTerms(sorted[2], odd) {
		t.Errorf("%+v", sorted)
	}
}

// spoilTerms overwrites a list, the room behind it, and all that its terms hold.
func spoilTerms(l []impl.Term) {
	for _, x := range l {
		spoilTerms(x.L)
	}
	l = l[:cap(l)]
	for i := range l {
		l[i] = impl.Term{K: 77, N: 77, S: "spoilt"}
	}
}

// roomyTerms: a list with room behind it, in which and behind which stand terms that share a part.
func roomyTerms() ([]impl.Term, []impl.Term) {
	shared := listTerm(intTerm(3), intTerm(1))
	room := []impl.Term{tupleTerm(shared, shared), shared, shared, intTerm(2), intTerm(-2), atomTerm("z")}
	return room, room[:4]
}

func TestTermAnswersAreNew(t *testing.T) {
	room, l := roomyTerms()
	kept, _ := roomyTerms()
	sorted, again := impl.SortTerms(l), impl.SortTerms(l)
	if !alikeTerms(listTerm(room...), listTerm(kept...)) {
		t.Error("sorting wrote into its argument")
	}
	spoilTerms(sorted[1:2:2])
	if sorted[0].K == 77 || !alikeTerms(sorted[2], again[2]) || !alikeTerms(sorted[3], again[3]) {
		t.Error("two lists of what is sorted share memory")
	}
	spoilTerms(sorted)
	if !alikeTerms(listTerm(room...), listTerm(kept...)) {
		t.Error("what is sorted shares memory with its argument")
	}
	spoilTerms(room)
	if !alikeTerms(again[0], intTerm(2)) || !alikeTerms(again[1], kept[0]) || !alikeTerms(again[3], kept[1]) {
		t.Error("what is sorted changes with its argument")
	}
}

func TestTermBytesAreNew(t *testing.T) {
	x := tupleTerm(atomTerm("ab"), listTerm(intTerm(1)))
	first, second := impl.PutTerm(x), impl.PutTerm(x)
	kept := bytes.Clone(second)
	back, _ := impl.GetTerm(first)
	other, _ := impl.GetTerm(second)
	overwrite(first)
	if !bytes.Equal(second, kept) || !alikeTerms(back, x) {
		t.Error("bytes are shared")
	}
	spoilTerms(back.L)
	if !alikeTerms(other, x) || !bytes.Equal(second, kept) {
		t.Error("terms that came back share memory")
	}
}

// TestTermCallsLeaveArgumentsAlone: and what stands behind a list's length is neither read nor written.
func TestTermCallsLeaveArgumentsAlone(t *testing.T) {
	room, l := roomyTerms()
	kept, _ := roomyTerms()
	x := listTerm(l...)
	if impl.CountOf(x) != 1+7+3+3+1 || impl.DepthOf(x) != 4 || impl.TermText(x) != "[{[3,1],[3,1]},[3,1],[3,1],2]" {
		t.Error(impl.CountOf(x), impl.DepthOf(x), impl.TermText(x))
	}
	impl.TermOk(x)
	impl.SameTerm(x, listTerm(room...))
	impl.LessTerm(x, listTerm(room...))
	b := impl.PutTerm(x)
	if !alikeTerms(listTerm(room...), listTerm(kept...)) {
		t.Error("a call wrote into its argument")
	}
	same := bytes.Clone(b)
	roomy := append(bytes.Clone(b), 1, 2, 3)[:len(b)]
	if back, ok := impl.GetTerm(roomy); !ok || !alikeTerms(back, x) || !bytes.Equal(roomy, same) {
		t.Error("reading minds what is behind its bytes")
	}
}
