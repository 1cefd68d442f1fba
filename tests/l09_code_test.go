package tests

import (
	"fmt"
	"maps"
	"math"
	"math/rand"
	"slices"
	"strconv"
	"strings"
	"testing"
	"unsafe"

	"loop.example/g00236/impl"
)

func intP(n int) impl.Pat { return impl.Pat{K: impl.XInt, N: n} }

func atomP(s string) impl.Pat { return impl.Pat{K: impl.XAtom, S: s} }

func slotP(n int) impl.Pat { return impl.Pat{K: impl.XVar, N: n} }

func tupleP(l ...impl.Pat) impl.Pat { return impl.Pat{K: impl.XTuple, E: l} }

func listP(l ...impl.Pat) impl.Pat { return impl.Pat{K: impl.XList, E: l} }

func consP(l ...impl.Pat) impl.Pat { return impl.Pat{K: impl.XCons, E: l} }

// timesP: one pattern so many times; what it holds is shared.
func timesP(n int, p impl.Pat) []impl.Pat { return slices.Repeat([]impl.Pat{p}, n) }

// nestedP: the innermost pattern within so many of one kind, each of which has as few parts as it may.
func nestedP(k int, times int, inner impl.Pat) impl.Pat {
	for range times {
		p := impl.Pat{K: k, E: []impl.Pat{inner}}
		if k == impl.XCons {
			p.E = []impl.Pat{intP(1), inner}
		}
		inner = p
	}
	return inner
}

// countedP: a pattern with just so many in all (at least 1, at most 421), in tuples of 20 and one that holds them.
func countedP(count int) impl.Pat {
	var l []impl.Pat
	for left := count - 1; left > 0; {
		size := min(left, 21)
		l = append(l, tupleP(timesP(size-1, intP(left))...))
		left -= size
	}
	return listP(l...)
}

// manySlots: a pattern of so many slots from the first on (at most 280), in tuples of 20.
func manySlots(many int) impl.Pat {
	var rows []impl.Pat
	for from := 0; from < many; from += 20 {
		var row []impl.Pat
		for slot := from; slot < min(many, from+20); slot++ {
			row = append(row, slotP(slot))
		}
		rows = append(rows, tupleP(row...))
	}
	return tupleP(rows...)
}

// patText: a pattern by slots as a text: `#` and the slot, in place of a name.
func patText(p impl.Pat) string {
	var l []string
	for _, part := range p.E {
		l = append(l, patText(part))
	}
	switch p.K {
	case impl.XInt:
		return strconv.Itoa(p.N)
	case impl.XAtom:
		return p.S
	case impl.XVar:
		if p.N == -1 {
			return "_"
		}
		return "#" + strconv.Itoa(p.N)
	case impl.XTuple:
		return "{" + strings.Join(l, ", ") + "}"
	case impl.XList:
		return "[" + strings.Join(l, ", ") + "]"
	case impl.XCons:
		return "[" + strings.Join(l[:len(l)-1], ", ") + " | " + l[len(l)-1] + "]"
	}
	return "?"
}

func patTexts(l []impl.Pat) string {
	var all []string
	for _, p := range l {
		all = append(all, patText(p))
	}
	return strings.Join(all, " ; ")
}

func samePat(a impl.Pat, b impl.Pat) bool {
	return a.K == b.K && a.N == b.N && a.S == b.S && slices.EqualFunc(a.E, b.E, samePat)
}

func sameFn(a impl.Fn, b impl.Fn) bool {
	return a.Name == b.Name && a.Args == b.Args && a.Slots == b.Slots && slices.Equal(a.Ins, b.Ins)
}

func plainSameCode(a impl.Code, b impl.Code) bool {
	return slices.EqualFunc(a.Fns, b.Fns, sameFn) && slices.EqualFunc(a.Pats, b.Pats, samePat)
}

func plainCopyPats(l []impl.Pat) []impl.Pat {
	own := slices.Clone(l)
	for i := range own {
		own[i].E = plainCopyPats(own[i].E)
	}
	return own
}

func plainCopyCode(c impl.Code) impl.Code {
	own := impl.Code{Fns: slices.Clone(c.Fns), Pats: plainCopyPats(c.Pats)}
	for i := range own.Fns {
		own.Fns[i].Ins = slices.Clone(own.Fns[i].Ins)
	}
	return own
}

// exprOfPat: the pattern by names that one by slots is as; false where a slot is none.
func exprOfPat(p impl.Pat, slots int) (impl.Expr, bool) {
	e, right := impl.Expr{K: p.K, N: p.N, S: p.S}, true
	if p.K == impl.XVar {
		right = p.S == "" && p.N >= -1 && p.N < slots
		e.N, e.S = 0, nameNo(p.N)
		if p.N == -1 {
			e.S = "_"
		}
	}
	for _, part := range p.E {
		x, ok := exprOfPat(part, slots)
		e.E, right = append(e.E, x), right && ok
	}
	return e, right
}

// plainFits: the chapter's words once more, by those of chapter 4.
func plainFits(p impl.Pat, slots int) bool {
	e, right := exprOfPat(p, slots)
	return right && slots >= 0 && slots <= 400 && plainOk(e, true)
}

// fitsSlots: what PatFits answers is this, and as the witness has it; it leaves its argument as it is.
func fitsSlots(t *testing.T, what string, p impl.Pat, slots int, want bool) {
	t.Helper()
	kept := plainCopyPats([]impl.Pat{p})[0]
	if got := impl.PatFits(p, slots); got != want || plainFits(p, slots) != want {
		t.Errorf("%s: %s in %d slots: %v, the witness %v, not %v", what, patText(kept), slots, got, plainFits(p, slots), want)
	}
	if !samePat(p, kept) {
		t.Errorf("%s: PatFits wrote into its argument", what)
	}
}

// insWords: the words of CodeText, by their codes, and the fields behind them.
var insWords = []string{"", "int N", "atom S", "load N", "tuple N", "list N", "cons N", "op S", "call S N", "match N To", "jump To", "fail", "ret"}

// asm: the Ins of a text, with `;` between.
func asm(s string) []impl.Ins {
	var l []impl.Ins
	for _, line := range strings.Split(s, ";") {
		words := strings.Fields(line)
		in := impl.Ins{}
		for op, form := range insWords {
			fields := strings.Fields(form)
			if op == 0 || fields[0] != words[0] {
				continue
			}
			in.Op = op
			for i, field := range fields {
				switch n, _ := strconv.Atoi(words[i]); field {
				case "N":
					in.N = n
				case "S":
					in.S = words[i]
				case "To":
					in.To = n
				}
			}
		}
		l = append(l, in)
	}
	return l
}

func fnOf(name string, args int, slots int, text string) impl.Fn {
	return impl.Fn{Name: name, Args: args, Slots: slots, Ins: asm(text)}
}

func plainCodeText(c impl.Code) string {
	var w strings.Builder
	for _, f := range c.Fns {
		fmt.Fprintf(&w, "%s/%d %d\n", f.Name, f.Args, f.Slots)
		for at, in := range f.Ins {
			fmt.Fprintf(&w, "%d %s\n", at, strings.NewReplacer("N", strconv.Itoa(in.N), "S", in.S, "To", strconv.Itoa(in.To)).Replace(insWords[in.Op]))
		}
	}
	return w.String()
}

// plainInsOk: the chapter's words once more; where an Ins leads to is for plainHeights.
func plainInsOk(c impl.Code, f impl.Fn, in impl.Ins) bool {
	atom := func(s string) bool {
		return impl.AtomOk(s) && !slices.Contains([]string{"case", "of", "end"}, s)
	}
	if in.Op < 1 || in.Op > 12 {
		return false
	}
	named := strings.Fields(insWords[in.Op])
	if in.N != 0 && !slices.Contains(named, "N") || in.S != "" && !slices.Contains(named, "S") || in.To != 0 && !slices.Contains(named, "To") {
		return false
	}
	is := map[int]func() bool{
		impl.InInt:   func() bool { return in.N >= 0 && in.N <= 1000000000000 },
		impl.InAtom:  func() bool { return atom(in.S) },
		impl.InLoad:  func() bool { return in.N >= 0 && in.N < f.Slots },
		impl.InTuple: func() bool { return in.N >= 0 && in.N <= 20 },
		impl.InList:  func() bool { return in.N >= 0 && in.N <= 20 },
		impl.InCons:  func() bool { return in.N >= 2 && in.N <= 6 },
		impl.InOp:    func() bool { return slices.Contains(strings.Fields("+ - * == <"), in.S) },
		impl.InCall: func() bool {
			return slices.ContainsFunc(c.Fns, func(f impl.Fn) bool { return f.Name == in.S && f.Args == in.N })
		},
		impl.InMatch: func() bool { return in.N >= 0 && in.N < len(c.Pats) && plainFits(c.Pats[in.N], f.Slots) },
	}[in.Op]
	return is == nil || is()
}

// plainHeights goes by every way there is: of each place it keeps all heights that it is come to at.
func plainHeights(l []impl.Ins) bool {
	type stand struct{ at, height int }
	met := make([]map[int]bool, len(l))
	todo := []stand{{}}
	for len(todo) > 0 {
		s := todo[len(todo)-1]
		todo = todo[:len(todo)-1]
		if s.at >= len(l) || s.height > 300 {
			return false
		}
		if met[s.at][s.height] {
			continue
		}
		if met[s.at] == nil {
			met[s.at] = map[int]bool{}
		}
		met[s.at][s.height] = true
		in := l[s.at]
		takes := map[int]int{impl.InTuple: in.N, impl.InList: in.N, impl.InCons: in.N, impl.InCall: in.N, impl.InOp: 2, impl.InMatch: 1, impl.InRet: 1}[in.Op]
		if s.height < takes || in.Op == impl.InRet && s.height != 1 {
			return false
		}
		if in.Op == impl.InMatch || in.Op == impl.InJump {
			if in.To <= s.at || in.To >= len(l) {
				return false
			}
			todo = append(todo, stand{in.To, s.height})
		}
		switch in.Op {
		case impl.InMatch:
			todo = append(todo, stand{s.at + 1, s.height - 1})
		case impl.InJump, impl.InFail, impl.InRet:
		default:
			todo = append(todo, stand{s.at + 1, s.height - takes + 1})
		}
	}
	last := l[len(l)-1].Op
	return !slices.ContainsFunc(met, func(m map[int]bool) bool { return len(m) != 1 }) && (last == impl.InRet || last == impl.InFail)
}

func plainCodeOk(c impl.Code) bool {
	if len(c.Fns) > 12 || len(c.Pats) > 2000 {
		return false
	}
	names := map[string]int{}
	for _, f := range c.Fns {
		names[f.Name]++
		if names[f.Name] > 1 || !impl.AtomOk(f.Name) || slices.Contains([]string{"case", "of", "end"}, f.Name) || f.Args < 0 || f.Args > 4 || f.Slots < f.Args || f.Slots > 400 || len(f.Ins) == 0 || len(f.Ins) > 1500 {
			return false
		}
		if slices.ContainsFunc(f.Ins, func(in impl.Ins) bool { return !plainInsOk(c, f, in) }) || !plainHeights(f.Ins) {
			return false
		}
	}
	return true
}

// codeIs: what CodeOk answers is this, and as the witness has it; CodeText has a text of what is right alone; both leave their argument as it is.
func codeIs(t *testing.T, what string, c impl.Code, want bool) {
	t.Helper()
	kept := plainCopyCode(c)
	if got := impl.CodeOk(c); got != want || plainCodeOk(c) != want {
		t.Errorf("%s: %v, the witness %v, not %v", what, got, plainCodeOk(c), want)
	}
	text := ""
	if want {
		text = plainCodeText(c)
	}
	if got := impl.CodeText(c); got != text {
		t.Errorf("%s: %q, not %q", what, got, text)
	}
	if !plainSameCode(c, kept) {
		t.Errorf("%s: a call wrote into its argument", what)
	}
}

// insAre: likewise of one Fn, `f` of one arg and two slots, beside `g` of two, and the pattern `{#1, _}`.
func insAre(t *testing.T, text string, want bool) {
	t.Helper()
	codeIs(t, text, codeAround(asm(text)), want)
}

func codeAround(l []impl.Ins) impl.Code {
	return impl.Code{Fns: []impl.Fn{{Name: "f", Args: 1, Slots: 2, Ins: l}, fnOf("g", 2, 2, "load 0; ret")}, Pats: []impl.Pat{tupleP(slotP(1), slotP(-1))}}
}

// plainCompile: the chapter's words once more; where an Ins leads to is first told from where it stands.
func plainCompile(m impl.Module) (impl.Code, bool) {
	if !plainRight(m) {
		return impl.Code{}, false
	}
	var c impl.Code
	for _, f := range m.Funs {
		slots := 0
		bound := map[string]int{}
		bind := func(bound map[string]int, name string) int {
			if name == "_" {
				return -1
			}
			bound[name] = slots
			slots++
			return bound[name]
		}
		var pat func(p impl.Expr, bound map[string]int) impl.Pat
		var of func(e impl.Expr, bound map[string]int) []impl.Ins
		pat = func(p impl.Expr, bound map[string]int) impl.Pat {
			if p.K == impl.XVar {
				return slotP(bind(bound, p.S))
			}
			own := impl.Pat{K: p.K, N: p.N, S: p.S}
			for _, x := range p.E {
				own.E = append(own.E, pat(x, bound))
			}
			return own
		}
		of = func(e impl.Expr, bound map[string]int) []impl.Ins {
			var l []impl.Ins
			for _, x := range e.E {
				l = append(l, of(x, bound)...)
			}
			many := len(e.E)
			one := map[int]impl.Ins{impl.XInt: {Op: 1, N: e.N}, impl.XAtom: {Op: 2, S: e.S}, impl.XVar: {Op: 3, N: bound[e.S]}, impl.XTuple: {Op: 4, N: many}, impl.XList: {Op: 5, N: many}, impl.XCons: {Op: 6, N: many}, impl.XOp: {Op: 7, S: e.S}, impl.XCall: {Op: 8, S: e.S, N: many}}
			if e.K != impl.XCase {
				return append(l, one[e.K])
			}
			var rows [][]impl.Ins
			for _, k := range e.C {
				inner := maps.Clone(bound)
				c.Pats = append(c.Pats, pat(k.P, inner))
				row := []impl.Ins{{Op: 9, N: len(c.Pats) - 1}}
				row = append(append(row, of(k.X, inner)...), impl.Ins{Op: 10})
				row[0].To = len(row)
				rows = append(rows, row)
			}
			behind := 2
			for _, row := range slices.Backward(rows) {
				row[len(row)-1].To = behind
				behind += len(row)
			}
			return append(append(l, slices.Concat(rows...)...), impl.Ins{Op: 11})
		}
		for _, name := range f.Params {
			bind(bound, name)
		}
		l := append(of(f.X, bound), impl.Ins{Op: 12})
		for i := range l {
			if l[i].To > 0 {
				l[i].To += i
			}
		}
		c.Fns = append(c.Fns, impl.Fn{Name: f.Name, Args: len(f.Params), Slots: slots, Ins: l})
	}
	return c, true
}

func patListSpans(l []impl.Pat) []span {
	all := listSpan(l)
	for _, p := range l {
		all = append(all, patListSpans(p.E)...)
	}
	return all
}

func patTextSpans(l []impl.Pat) []span {
	var all []span
	for _, p := range l {
		all = append(append(all, textSpan(p.S)...), patTextSpans(p.E)...)
	}
	return all
}

func codeListSpans(c impl.Code) []span {
	l := append(listSpan(c.Fns), patListSpans(c.Pats)...)
	for _, f := range c.Fns {
		l = append(l, listSpan(f.Ins)...)
	}
	return l
}

func codeSpans(c impl.Code) []span {
	l := append(codeListSpans(c), patTextSpans(c.Pats)...)
	for _, f := range c.Fns {
		l = append(l, textSpan(f.Name)...)
		for _, in := range f.Ins {
			l = append(l, textSpan(in.S)...)
		}
	}
	return l
}

// compiles: what Compile answers is as the witness has it, right, and in memory of its own; it leaves its argument as it is.
func compiles(t *testing.T, m impl.Module) (impl.Code, bool) {
	t.Helper()
	want, wanted := plainCompile(m)
	kept := plainCopyModule(m)
	c, ok := impl.Compile(m)
	if ok != wanted || !plainSameCode(c, want) {
		t.Fatalf("%q: %v, %+v, not %v, %+v", plainModuleText(m), ok, c, wanted, want)
	}
	if !plainSameModule(m, kept) {
		t.Fatalf("%q: Compile wrote into its argument", plainModuleText(kept))
	}
	if meeting(codeSpans(c), append([]span{}, spansOf(m)...)) {
		t.Fatalf("%q: the code shares memory with the module", plainModuleText(m))
	}
	if meeting(codeListSpans(c), nil) {
		t.Fatalf("%q: two lists of the code share memory", plainModuleText(m))
	}
	codeIs(t, "compiled of "+plainModuleText(m), c, true)
	for i, f := range c.Fns {
		for _, in := range f.Ins {
			if in.Op == impl.InMatch {
				fitsSlots(t, m.Funs[i].Name, c.Pats[in.N], f.Slots, true)
			}
		}
	}
	return c, ok
}

func TestCodes(t *testing.T) {
	codes := []int{impl.InInt, impl.InAtom, impl.InLoad, impl.InTuple, impl.InList, impl.InCons, impl.InOp, impl.InCall, impl.InMatch, impl.InJump, impl.InFail, impl.InRet}
	if !slices.Equal(codes, []int{1, 2, 3, 4, 5, 6, 7, 8, 9, 10, 11, 12}) {
		t.Error(codes)
	}
}

func TestPatFitsSlots(t *testing.T) {
	for _, slots := range []int{math.MinInt, -400, -2, -1, 0, 1, 2, 399, 400, 401, 402, 1 << 32, math.MaxInt} {
		within := slots >= 0 && slots <= 400
		for _, p := range []impl.Pat{intP(1), atomP("a"), slotP(-1), tupleP(), listP(slotP(-1)), consP(slotP(-1), slotP(-1))} {
			fitsSlots(t, "how many slots", p, slots, within)
		}
		for _, n := range []int{math.MinInt, -3, -2, -1, 0, 1, 2, 398, 399, 400, 401, slots - 1, slots, slots + 1, math.MaxInt} {
			for _, p := range []impl.Pat{slotP(n), tupleP(slotP(n)), consP(intP(1), listP(slotP(n)))} {
				fitsSlots(t, "which slot", p, slots, within && n >= -1 && n < slots)
			}
		}
	}
	for what, x := range map[string]struct {
		p    impl.Pat
		want bool
	}{
		"a slot twice":               {tupleP(slotP(0), slotP(0)), false},
		"two slots":                  {tupleP(slotP(0), slotP(1)), true},
		"two slots, the other first": {tupleP(slotP(1), slotP(0)), true},
		"the last slot twice":        {listP(slotP(4), intP(1), slotP(4)), false},
		"a slot twice, apart":        {tupleP(tupleP(slotP(3)), slotP(1), listP(consP(slotP(2), slotP(3)))), false},
		"three slots, apart":         {tupleP(tupleP(slotP(3)), slotP(1), listP(consP(slotP(2), slotP(-1)))), true},
		"a slot twice in a cons":     {consP(slotP(2), slotP(2)), false},
		"-1 twice":                   {tupleP(slotP(-1), slotP(-1)), true},
		"-1 very often":              {consP(slotP(-1), slotP(-1), tupleP(timesP(20, slotP(-1))...), slotP(-1)), true},
		"-1 between a slot twice":    {listP(slotP(0), slotP(-1), slotP(0)), false},
		"a slot, its number":         {tupleP(slotP(2), intP(2)), true},
	} {
		fitsSlots(t, what, x.p, 5, x.want)
	}
	for many := range 281 {
		p := manySlots(many)
		fitsSlots(t, "many slots", p, 280, true)
		fitsSlots(t, "just enough slots", p, many, true)
		if many > 0 {
			fitsSlots(t, "too few slots", p, many-1, false)
		}
	}
	// One call leaves nothing behind for another.
	for range 3 {
		fitsSlots(t, "again", slotP(0), 1, true)
	}
}

// rightPatKinds: one of each kind.
func rightPatKinds() []impl.Pat {
	return []impl.Pat{intP(0), intP(7), atomP("a"), slotP(0), slotP(-1), tupleP(), tupleP(intP(1)), listP(), listP(slotP(1)), consP(intP(1), slotP(-1))}
}

// aroundPat: the pattern at every place within another one.
func aroundPat(p impl.Pat) []impl.Pat {
	one := intP(1)
	return []impl.Pat{tupleP(p), listP(one, p), consP(p, one), consP(one, p), tupleP(one, listP(consP(one, tupleP(p))))}
}

func TestPatFitsKinds(t *testing.T) {
	one := intP(1)
	is := func(what string, p impl.Pat, want bool) {
		t.Helper()
		for _, x := range append(aroundPat(p), p) {
			fitsSlots(t, what, x, 5, want)
		}
	}
	for _, p := range rightPatKinds() {
		is("right", p, true)
		if len(p.E) == 0 {
			p.E = []impl.Pat{}
			is("an empty list", p, true)
		}
	}
	for _, k := range []int{math.MinInt, -1, 0, impl.XOp, impl.XCall, impl.XCase, 10, 256 + impl.XInt, math.MaxInt} {
		for _, p := range []impl.Pat{{K: k}, {K: k, N: 1}, {K: k, S: "a"}, {K: k, S: "+"}, {K: k, E: timesP(1, one)}, {K: k, E: timesP(2, one)}, {K: k, S: "+", E: timesP(2, one)}, {K: k, S: "f", E: timesP(2, one)}} {
			is("no kind", p, false)
		}
	}
	for _, n := range []int{math.MinInt, -1, 0, 1, impl.MaxInt - 1, impl.MaxInt, impl.MaxInt + 1, math.MaxInt} {
		is("a number", intP(n), n >= 0 && n <= impl.MaxInt)
	}
	for _, s := range []string{"a", "ok", "cases", "cas", "ofx", "end_", "true", "a1_", twentySmall} {
		is("an atom", atomP(s), true)
	}
	for _, s := range []string{"", "case", "of", "end", "A", "_", "_a", "1", "aB", "a b", "é", "a\x00", twentySmall + "u"} {
		is("no atom", atomP(s), false)
	}
	for many := range 24 {
		is("a tuple", tupleP(timesP(many, one)...), many <= 20)
		is("a list", listP(timesP(many, slotP(-1))...), many <= 20)
		is("a cons", consP(timesP(many, one)...), many >= 2 && many <= 6)
	}
	for _, p := range rightPatKinds() {
		for _, n := range []int{1, -1, impl.MaxInt} {
			if x := p; p.K != impl.XInt && p.K != impl.XVar {
				x.N = n
				is("an N that is not named", x, false)
			}
		}
		for _, s := range []string{"a", "A", "_", "+", "\x00", " "} {
			if x := p; p.K != impl.XAtom {
				x.S = s
				is("an S that is not named", x, false)
			}
		}
		if x := p; p.K <= impl.XVar {
			for _, parts := range [][]impl.Pat{{one}, {slotP(-1)}, timesP(2, one), {{}}} {
				x.E = parts
				is("an E that is not named", x, false)
			}
		}
	}
	is("a part of no kind", tupleP(one, impl.Pat{}), false)
	is("the zero one", impl.Pat{}, false)
}

func TestPatFitsLimits(t *testing.T) {
	for deep := 1; deep <= 14; deep++ {
		for _, inner := range []impl.Pat{intP(1), tupleP(), slotP(-1), slotP(3)} {
			for _, k := range []int{impl.XTuple, impl.XList, impl.XCons} {
				fitsSlots(t, strconv.Itoa(deep)+" deep", nestedP(k, deep-1, inner), 5, deep <= 10)
			}
			fitsSlots(t, strconv.Itoa(deep)+" deep on one side", tupleP(intP(1), nestedP(impl.XList, deep-1, inner), slotP(1)), 5, deep+1 <= 10)
		}
	}
	for count := 280; count <= 310; count++ {
		what := strconv.Itoa(count) + " in all"
		fitsSlots(t, what, countedP(count), 5, count <= 300)
		fitsSlots(t, what, tupleP(countedP(count/2), countedP(count-count/2-1)), 0, count <= 300)
	}
	// As many slots as there may be.
	p := manySlots(280)
	p.E = append(p.E, slotP(399), slotP(398), slotP(397), slotP(396), slotP(-1))
	fitsSlots(t, "300 with their slots", p, 400, true)
	fitsSlots(t, "one slot too few", p, 399, false)
	p.E = append(p.E, slotP(-1))
	fitsSlots(t, "301 with their slots", p, 400, false)
}

// mixedP: a pattern by slots, mostly right.
func mixedP(r *rand.Rand, deep int) impl.Pat {
	p := impl.Pat{K: 1 + r.Intn(6)}
	if deep <= 1 {
		p.K = 1 + r.Intn(3)
	}
	many := r.Intn(4)
	switch p.K {
	case impl.XInt:
		p.N = r.Intn(4)
	case impl.XAtom:
		p.S = []string{"a", "b", "ok"}[r.Intn(3)]
	case impl.XVar:
		p.N = r.Intn(30) - 1
	case impl.XCons:
		many = 2 + r.Intn(3)
	}
	if p.K > impl.XVar {
		for range many {
			p.E = append(p.E, mixedP(r, deep-1))
		}
	}
	return p
}

// placesP: where each pattern within stands, itself first.
func placesP(p *impl.Pat) []*impl.Pat {
	l := []*impl.Pat{p}
	for i := range p.E {
		l = append(l, placesP(&p.E[i])...)
	}
	return l
}

// spoilP changes one place, most often to what is wrong there.
func spoilP(r *rand.Rand, p *impl.Pat) {
	all := placesP(p)
	at := all[r.Intn(len(all))]
	switch r.Intn(6) {
	case 0:
		at.K = r.Intn(12) - 1
	case 1:
		at.N = []int{0, 1, -1, -2, 29, 30, impl.MaxInt, impl.MaxInt + 1}[r.Intn(8)]
	case 2:
		at.S = []string{"", "a", "A", "_", "case", "of", "end"}[r.Intn(7)]
	case 3:
		at.E = append(at.E, slotP(r.Intn(10)-1))
	case 4:
		at.E = at.E[:r.Intn(len(at.E)+1)]
	case 5:
		*at = slotP(r.Intn(10) - 1)
	}
}

func TestPatFitsByAnotherWitness(t *testing.T) {
	r := rand.New(rand.NewSource(91))
	var seen [2]int
	for i := range 40000 {
		p := mixedP(r, 1+r.Intn(4))
		if i%3 == 0 {
			spoilP(r, &p)
		}
		slots := []int{30, 30, 29, r.Intn(31), 400, 401, -1}[r.Intn(7)]
		want := plainFits(p, slots)
		fitsSlots(t, "mixed", p, slots, want)
		if want {
			seen[1]++
		} else {
			seen[0]++
		}
	}
	if min(seen[0], seen[1]) < 5000 {
		t.Error("too few to tell anything:", seen)
	}
}

func TestCodeOkFns(t *testing.T) {
	codeIs(t, "the zero one", impl.Code{}, true)
	codeIs(t, "empty lists", impl.Code{Fns: []impl.Fn{}, Pats: []impl.Pat{}}, true)
	codeIs(t, "the zero Fn", impl.Code{Fns: []impl.Fn{{}}}, false)
	var c impl.Code
	for i := range 15 {
		c.Fns = append(c.Fns, fnOf("f"+strconv.Itoa(i), 0, 0, "int 1; ret"))
		codeIs(t, strconv.Itoa(i+1)+" Fns", c, i+1 <= 12)
	}
	c.Fns = c.Fns[:12]
	for i := range 12 {
		for k := range 12 {
			twice := plainCopyCode(c)
			twice.Fns[i].Name = twice.Fns[k].Name
			codeIs(t, "two of one Name", twice, i == k)
		}
	}
	for _, s := range []string{"a", "ok", "cases", "cas", "ofx", "end_", "a1_", twentySmall, "", "case", "of", "end", "A", "_", "_a", "1", "aB", "a b", "é", "a\x00", "f()", twentySmall + "u"} {
		want := impl.AtomOk(s) && s != "case" && s != "of" && s != "end"
		for i := range 12 {
			named := plainCopyCode(c)
			named.Fns[i].Name = s
			codeIs(t, "named "+s, named, want)
		}
	}
	for _, args := range []int{math.MinInt, -1, 0, 1, 2, 3, 4, 5, 400, math.MaxInt} {
		for _, slots := range []int{math.MinInt, -1, 0, 1, 2, 3, 4, 5, 399, 400, 401, 402, math.MaxInt} {
			want := args >= 0 && args <= 4 && slots >= args && slots <= 400
			codeIs(t, fmt.Sprint(args, " args, ", slots, " slots"), impl.Code{Fns: []impl.Fn{fnOf("a", 0, 0, "int 1; ret"), fnOf("f", args, slots, "int 1; ret")}}, want)
		}
	}
	for _, many := range []int{0, 1, 2, 3, 1499, 1500, 1501, 1502, 3000, 100000} {
		l := append(asm("tuple 0"), slices.Repeat(asm("tuple 1"), many)...)[:many]
		if many > 0 {
			l[many-1] = impl.Ins{Op: impl.InFail}
		}
		codeIs(t, strconv.Itoa(many)+" Ins", impl.Code{Fns: []impl.Fn{fnOf("g", 0, 0, "int 1; ret"), {Name: "f", Ins: l}}}, many >= 1 && many <= 1500)
	}
}

// TestCodeOkPats: what stands in Pats counts only where it is named, but for how many there are.
func TestCodeOkPats(t *testing.T) {
	for _, many := range []int{0, 1, 1999, 2000, 2001, 2002, 100000} {
		what := strconv.Itoa(many) + " Pats"
		codeIs(t, what, impl.Code{Pats: make([]impl.Pat, many)}, many <= 2000)
		codeIs(t, what, impl.Code{Fns: []impl.Fn{fnOf("f", 0, 0, "int 1; ret")}, Pats: make([]impl.Pat, many)}, many <= 2000)
		codeIs(t, what, impl.Code{Fns: []impl.Fn{fnOf("f", 0, 0, "int 1; match "+strconv.Itoa(many-1)+" 3; fail; ret")}, Pats: timesP(many, slotP(-1))}, many >= 1 && many <= 2000)
	}
	wrong := []impl.Pat{{}, {K: 99}, slotP(-2), slotP(400), tupleP(slotP(0), slotP(0)), countedP(301), nestedP(impl.XList, 10, intP(1)), atomP("case"), {K: impl.XVar, S: "A"}}
	for i, p := range wrong {
		for at := range 3 {
			pats := []impl.Pat{slotP(0), slotP(1), slotP(2)}
			pats[at] = p
			for named := range 3 {
				c := impl.Code{Fns: []impl.Fn{fnOf("g", 0, 0, "fail"), fnOf("f", 1, 400, "load 0; match "+strconv.Itoa(named)+" 3; fail; ret")}, Pats: pats}
				codeIs(t, fmt.Sprint("wrong pattern ", i, " at ", at, ", named: ", named), c, named != at)
			}
		}
		codeIs(t, "named by none", impl.Code{Pats: []impl.Pat{p}}, true)
	}
	// Whether a pattern fits hangs on the Slots of the Fn that names it.
	for slots := range 5 {
		for slot := -2; slot < 6; slot++ {
			c := impl.Code{Fns: []impl.Fn{fnOf("f", 0, slots, "int 1; match 0 3; fail; ret"), fnOf("g", 0, 400, "int 1; match 0 3; fail; ret")}, Pats: []impl.Pat{listP(intP(1), slotP(slot))}}
			want := slot >= -1 && slot < slots
			codeIs(t, fmt.Sprint("slot ", slot, " of ", slots), c, want)
			slices.Reverse(c.Fns)
			codeIs(t, fmt.Sprint("slot ", slot, " of ", slots, " behind another Fn"), c, want)
		}
	}
	// One pattern may be named twice.
	insAre(t, "int 1; match 0 3; fail; match 0 5; fail; ret", true)
}

// TestCodeOkFields: each field of each Ins, just within and just beyond what is allowed, and what is not named.
func TestCodeOkFields(t *testing.T) {
	for _, n := range []int{math.MinInt, -1, 0, 1, impl.MaxInt - 1, impl.MaxInt, impl.MaxInt + 1, math.MaxInt} {
		codeIs(t, "int", codeAround([]impl.Ins{{Op: impl.InInt, N: n}, {Op: impl.InRet}}), n >= 0 && n <= impl.MaxInt)
	}
	for _, s := range []string{"a", "ok", "cases", "cas", "ofx", "end_", "a1_", twentySmall, "", "case", "of", "end", "A", "_", "_a", "1", "aB", "a b", "é", "a\x00", twentySmall + "u"} {
		want := impl.AtomOk(s) && s != "case" && s != "of" && s != "end"
		codeIs(t, "atom "+s, codeAround([]impl.Ins{{Op: impl.InAtom, S: s}, {Op: impl.InRet}}), want)
	}
	for _, slots := range []int{0, 1, 2, 400} {
		for _, n := range []int{math.MinInt, -2, -1, 0, 1, slots - 1, slots, slots + 1, math.MaxInt} {
			c := impl.Code{Fns: []impl.Fn{{Name: "f", Slots: slots, Ins: []impl.Ins{{Op: impl.InLoad, N: n}, {Op: impl.InRet}}}, fnOf("g", 0, 400, "load 399; ret")}}
			codeIs(t, fmt.Sprint("load ", n, " of ", slots), c, n >= 0 && n < slots)
		}
	}
	// So many are there; at the end it fails, as then any height is right.
	for _, n := range []int{math.MinInt, -2, -1, 0, 1, 2, 3, 5, 6, 7, 19, 20, 21, 22, 1000, math.MaxInt} {
		for _, op := range []int{impl.InTuple, impl.InList, impl.InCons} {
			l := append(slices.Repeat(asm("int 1"), 30), impl.Ins{Op: op, N: n}, impl.Ins{Op: impl.InFail})
			want := n >= 0 && n <= 20
			if op == impl.InCons {
				want = n >= 2 && n <= 6
			}
			codeIs(t, fmt.Sprint("Op ", op, " of ", n), codeAround(l), want)
		}
	}
	for _, s := range []string{"+", "-", "*", "==", "<", "", " ", "/", "=", "!=", ">", "<=", "=<", "++", "+ ", " +", "->", "|", "(", "a", "A", "===", "+\x00"} {
		codeIs(t, "op "+s, codeAround([]impl.Ins{{Op: impl.InInt}, {Op: impl.InInt}, {Op: impl.InOp, S: s}, {Op: impl.InRet}}), slices.Contains(strings.Fields("+ - * == <"), s))
	}
	for _, op := range []int{math.MinInt, -1, 0, 13, 14, 256 + impl.InRet, math.MaxInt} {
		for _, in := range []impl.Ins{{Op: op}, {Op: op, N: 1}, {Op: op, S: "a"}, {Op: op, To: 2}} {
			codeIs(t, fmt.Sprint("Op ", op), codeAround([]impl.Ins{{Op: impl.InInt}, in, {Op: impl.InRet}}), false)
			codeIs(t, fmt.Sprint("Op ", op, ", the last"), codeAround([]impl.Ins{{Op: impl.InInt}, in}), false)
		}
	}
	for _, x := range []struct {
		text string
		at   int
	}{
		{"int 7; ret", 0}, {"atom a; ret", 0}, {"load 0; ret", 0}, {"int 1; int 2; tuple 2; ret", 2}, {"int 1; int 2; list 2; ret", 2}, {"tuple 0; ret", 0}, {"list 0; ret", 0}, {"int 1; int 2; cons 2; ret", 2}, {"int 1; int 2; op +; ret", 2}, {"int 1; int 2; call g 2; ret", 2},
		{"int 1; match 0 4; int 5; jump 5; fail; ret", 1}, {"int 1; match 0 4; int 5; jump 5; fail; ret", 3}, {"int 1; match 0 4; int 5; jump 5; fail; ret", 4}, {"int 1; fail", 1}, {"int 1; ret", 1}, {"int 1; match 0 3; fail; ret", 2},
	} {
		insAre(t, x.text, true)
		named := strings.Fields(insWords[asm(x.text)[x.at].Op])
		set := func(what string, by func(in *impl.Ins)) {
			if l := asm(x.text); !slices.Contains(named, what) {
				by(&l[x.at])
				codeIs(t, x.text+", with "+what, codeAround(l), false)
			}
		}
		for _, n := range []int{1, 2, -1, math.MaxInt} {
			set("N", func(in *impl.Ins) { in.N = n })
		}
		for _, s := range []string{"a", "f", "A", "+", " ", "\x00"} {
			set("S", func(in *impl.Ins) { in.S = s })
		}
		for _, to := range []int{-1, 1, x.at + 1, x.at + 2, len(asm(x.text)) - 1, math.MaxInt} {
			set("To", func(in *impl.Ins) { in.To = to })
		}
	}
}

func TestCodeOkCalls(t *testing.T) {
	fns := []impl.Fn{fnOf("a", 0, 0, "call a 0; ret"), fnOf("b", 1, 1, "load 0; ret"), fnOf("d", 4, 4, "load 3; ret"), fnOf("f", 2, 2, "fail"), fnOf("h", 3, 3, "load 0; ret")}
	args := map[string]int{"a": 0, "b": 1, "d": 4, "f": 2, "h": 3}
	for _, s := range []string{"a", "b", "d", "f", "h", "", "g", "A", "case", "aa", "a ", "c"} {
		for _, n := range []int{math.MinInt, -1, 0, 1, 2, 3, 4, 5, math.MaxInt} {
			many, there := args[s]
			for at := range fns {
				c := impl.Code{Fns: slices.Clone(fns)}
				c.Fns[at].Ins = append(slices.Repeat(asm("int 1"), 5), impl.Ins{Op: impl.InCall, S: s, N: n}, impl.Ins{Op: impl.InFail})
				codeIs(t, fmt.Sprint("call ", s, " ", n, " in ", c.Fns[at].Name), c, there && many == n)
			}
		}
	}
}

func TestCodeOkPlaces(t *testing.T) {
	// A To that is at the Ins itself, ahead of it, behind the last, and every one between.
	for _, to := range []int{math.MinInt, -1, 0, 1, 2, 3, 4, 5, 6, 7, 8, 9, math.MaxInt} {
		text := func(s string) string { return strings.ReplaceAll(s, "TO", strconv.Itoa(to)) }
		insAre(t, text("int 1; int 2; jump TO; op +; ret"), to == 3)
		insAre(t, text("int 1; jump TO; jump 3; ret"), to == 2)
		insAre(t, text("int 1; match 0 4; int 2; jump TO; jump 5; ret"), to == 4 || to == 5)
		insAre(t, text("int 1; match 0 4; int 2; jump TO; fail; ret"), to == 5)
		insAre(t, text("int 1; match 0 TO; int 2; tuple 1; tuple 1; jump 6; ret"), to >= 3 && to <= 6)
		insAre(t, text("int 1; match 0 TO; fail; ret"), to == 3)
		insAre(t, text("int 1; match 0 TO; int 2; fail"), to == 3)
		insAre(t, text("int 1; jump TO"), false)
		insAre(t, text("int 1; match 0 TO"), false)
		insAre(t, text("jump TO; fail"), to == 1)
	}
	for _, n := range []int{math.MinInt, -1, 0, 1, 2, 3, math.MaxInt} {
		for many := range 3 {
			c := impl.Code{Fns: []impl.Fn{{Name: "f", Ins: []impl.Ins{{Op: impl.InInt}, {Op: impl.InMatch, N: n, To: 3}, {Op: impl.InFail}, {Op: impl.InRet}}}}, Pats: timesP(many, slotP(-1))}
			codeIs(t, fmt.Sprint("match ", n, " of ", many), c, n >= 0 && n < many)
		}
	}
}

func TestCodeOkHeights(t *testing.T) {
	for _, x := range []struct {
		text string
		want bool
	}{
		// What may be last.
		{"fail", true}, {"ret", false}, {"int 1", false}, {"int 1; ret", true}, {"int 1; fail", true}, {"int 1; int 2", false}, {"int 1; tuple 1", false}, {"tuple 0", false}, {"int 1; int 2; fail", true}, {"load 0", false}, {"atom a", false}, {"call f 0", false},
		// InRet at another height than 1.
		{"int 1; int 2; ret", false}, {"int 1; int 2; int 3; ret", false}, {"int 1; int 2; tuple 2; ret", true}, {"int 1; int 2; tuple 1; ret", false},
		// Too few for an Ins.
		{"tuple 0; ret", true}, {"tuple 1; ret", false}, {"int 1; tuple 1; ret", true}, {"int 1; tuple 2; ret", false}, {"list 1; ret", false}, {"int 1; list 1; ret", true}, {"int 1; int 2; list 3; ret", false}, {"cons 2; ret", false}, {"int 1; cons 2; ret", false}, {"int 1; int 2; cons 2; ret", true}, {"int 1; int 2; cons 3; ret", false},
		{"op +; ret", false}, {"int 1; op +; ret", false}, {"int 1; int 2; op +; ret", true}, {"int 1; int 2; op +; op +; ret", false}, {"call g 2; ret", false}, {"int 1; call g 2; ret", false}, {"int 1; int 2; call g 2; ret", true}, {"call f 1; ret", false}, {"int 1; call f 1; ret", true},
		{"match 0 2; fail; fail", false}, {"match 0 1; fail", false}, {"int 1; match 0 3; match 0 3; fail", false}, {"int 1; match 0 3; fail; ret", true}, {"int 1; match 0 3; ret; ret", false}, {"int 1; tuple 1; tuple 2; fail", false},
		// Come to by none.
		{"fail; fail", false}, {"fail; ret", false}, {"int 1; ret; ret", false}, {"int 1; ret; fail", false}, {"int 1; fail; ret", false}, {"int 1; fail; int 2; ret", false}, {"int 1; jump 3; fail; ret", false}, {"int 1; jump 3; int 2; ret", false}, {"jump 2; fail; fail", false}, {"int 1; jump 2; ret", true}, {"jump 1; int 1; jump 3; ret", true}, {"jump 1; fail", true}, {"int 1; jump 4; jump 4; fail; ret", false}, {"int 1; ret; jump 3; fail", false},
		// Come to at two heights.
		{"int 1; match 0 2; ret", false}, {"int 1; match 0 2; fail", false}, {"int 1; match 0 3; int 5; ret", true}, {"int 1; match 0 4; int 5; int 6; ret", false}, {"int 1; match 0 4; int 5; int 6; fail", false}, {"int 1; match 0 3; tuple 0; ret", true}, {"int 1; match 0 4; int 5; jump 4; ret", true}, {"int 1; match 0 3; jump 3; ret", false}, {"int 1; match 0 3; jump 3; fail", false}, {"int 1; int 2; match 0 4; jump 4; fail", false}, {"int 1; int 2; match 0 4; ret; fail", true}, {"int 1; int 2; match 0 4; ret; ret", false}, {"int 1; int 2; match 0 4; ret; op <; ret", true},
		{"int 1; match 0 4; int 5; jump 5; fail; ret", true}, {"int 1; match 0 5; int 5; int 6; jump 6; fail; ret", false}, {"int 1; match 0 5; int 5; int 6; jump 6; fail; fail", true}, {"int 1; match 0 4; int 5; jump 7; match 0 6; jump 7; fail; ret", false}, {"int 1; match 0 4; int 5; jump 8; match 0 7; int 5; jump 8; fail; ret", true}, {"int 1; match 0 4; int 5; jump 8; match 0 7; int 5; jump 8; ret; ret", true}, {"int 1; match 0 5; int 5; tuple 1; jump 9; match 0 8; load 1; jump 9; fail; ret", true},
		// Upon others.
		{"int 9; int 1; match 0 5; int 5; jump 6; fail; op +; ret", true}, {"int 9; int 1; match 0 5; int 5; jump 6; fail; ret", false}, {"int 9; int 1; match 0 4; ret; fail", true}, {"int 9; int 1; match 0 4; ret; int 3; fail", true},
	} {
		insAre(t, x.text, x.want)
		// What stands ahead is come to, too; what stands behind a right one is not.
		if x.want {
			insAre(t, x.text+"; fail", false)
			insAre(t, x.text+"; int 1; ret", false)
		}
	}
}

// down: so many Ins that put one each, and then those that leave just one of them.
func down(high int) string {
	l := slices.Repeat([]string{"int 1"}, high)
	for high > 1 {
		many := min(high, 20)
		l = append(l, "tuple "+strconv.Itoa(many))
		high -= many - 1
	}
	return strings.Join(append(l, "ret"), ";")
}

func TestCodeOkHigh(t *testing.T) {
	for high := 290; high <= 310; high++ {
		insAre(t, down(high), high <= 300)
		ahead := strings.Repeat("int 1;", high)
		insAre(t, ahead+"fail", high <= 300)
		insAre(t, ahead+"tuple 0; fail", high+1 <= 300)
		insAre(t, ahead+"op +; int 1; fail", high <= 300)
		insAre(t, ahead+"load 0; fail", high+1 <= 300)
		insAre(t, ahead+"list 1; fail", high <= 300)
		to := strconv.Itoa(high + 2)
		insAre(t, ahead+"match 0 "+to+"; fail; fail", high <= 300)
		insAre(t, ahead+"match 0 "+to+"; int 1; fail", high <= 300)
		insAre(t, ahead+"jump "+strconv.Itoa(high+1)+"; fail", high <= 300)
	}
	insAre(t, down(700), false)
	insAre(t, down(1), true)
}

// TestEveryShortFn: all that is told by a few Ins, held against the witness.
func TestEveryShortFn(t *testing.T) {
	letters := asm("int 1; tuple 2; match 0 1; match 0 2; match 0 3; match 0 4; jump 1; jump 2; jump 3; jump 4; fail; ret")
	var seen [2]int
	var tell func(l []impl.Ins)
	tell = func(l []impl.Ins) {
		c := codeAround(l)
		got := impl.CodeOk(c)
		if got != plainCodeOk(c) {
			t.Fatalf("%+v: %v", l, got)
		}
		if got {
			seen[1]++
		} else {
			seen[0]++
		}
		if len(l) < 5 {
			for _, in := range letters {
				tell(append(slices.Clip(l), in))
			}
		}
	}
	for _, in := range letters {
		tell([]impl.Ins{in})
	}
	if seen[1] < 30 {
		t.Error("too few to tell anything:", seen)
	}
}

func TestCodeText(t *testing.T) {
	c := impl.Code{Fns: []impl.Fn{
		fnOf("f", 1, 400, "int 1000000000000; atom ok; load 399; tuple 0; list 0; cons 5; match 1 9; load 0; jump 10; fail; ret"),
		fnOf(twentySmall, 4, 4, "load 3; load 2; op ==; int 0; op <; load 1; op +; load 0; op -; int 2; op *; tuple 1; list 1; call f 1; int 1; int 2; int 3; call "+twentySmall+" 4; ret"),
		fnOf("g", 0, 0, "fail"),
	}, Pats: []impl.Pat{slotP(-1), listP(slotP(399))}}
	want := "f/1 400\n0 int 1000000000000\n1 atom ok\n2 load 399\n3 tuple 0\n4 list 0\n5 cons 5\n6 match 1 9\n7 load 0\n8 jump 10\n9 fail\n10 ret\n" +
		twentySmall + "/4 4\n0 load 3\n1 load 2\n2 op ==\n3 int 0\n4 op <\n5 load 1\n6 op +\n7 load 0\n8 op -\n9 int 2\n10 op *\n11 tuple 1\n12 list 1\n13 call f 1\n14 int 1\n15 int 2\n16 int 3\n17 call " + twentySmall + " 4\n18 ret\n" +
		"g/0 0\n0 fail\n"
	if got := impl.CodeText(c); got != want {
		t.Errorf("%q, not %q", got, want)
	}
	codeIs(t, "each Ins", c, true)
	if got := impl.CodeText(impl.Code{}); got != "" {
		t.Errorf("without Fns: %q", got)
	}
	if got := impl.CodeText(impl.Code{Fns: []impl.Fn{fnOf("f", 0, 0, "ret")}}); got != "" {
		t.Errorf("not right: %q", got)
	}
}

// compilesTo: the code of a module's text, with `|` for each byte 10, and its patterns.
func compilesTo(t *testing.T, text string, want string, pats string) {
	t.Helper()
	c, ok := compiles(t, moduleOf(t, text))
	if got := strings.ReplaceAll(impl.CodeText(c), "\n", "|"); !ok || got != want || patTexts(c.Pats) != pats {
		t.Errorf("%s: %v, %s, %s, not %s, %s", text, ok, got, patTexts(c.Pats), want, pats)
	}
}

func TestCompileKinds(t *testing.T) {
	for _, x := range []struct{ text, want, pats string }{
		{"", "", ""},
		{"f() -> 0.", "f/0 0|0 int 0|1 ret|", ""},
		{"f() -> 1000000000000.", "f/0 0|0 int 1000000000000|1 ret|", ""},
		{"f() -> ok.", "f/0 0|0 atom ok|1 ret|", ""},
		{"f(X) -> X.", "f/1 1|0 load 0|1 ret|", ""},
		{"f(A, B, C, D) -> D.", "f/4 4|0 load 3|1 ret|", ""},
		{"f(A, B, C, D) -> {B, D, A, C}.", "f/4 4|0 load 1|1 load 3|2 load 0|3 load 2|4 tuple 4|5 ret|", ""},
		{"f() -> {}.", "f/0 0|0 tuple 0|1 ret|", ""},
		{"f() -> [].", "f/0 0|0 list 0|1 ret|", ""},
		{"f() -> {1}.", "f/0 0|0 int 1|1 tuple 1|2 ret|", ""},
		{"f() -> [1, a, {b}, [[]]].", "f/0 0|0 int 1|1 atom a|2 atom b|3 tuple 1|4 list 0|5 list 1|6 list 4|7 ret|", ""},
		{"f(X) -> [1 | X].", "f/1 1|0 int 1|1 load 0|2 cons 2|3 ret|", ""},
		{"f(X) -> [1, 2, 3, 4, 5 | X].", "f/1 1|0 int 1|1 int 2|2 int 3|3 int 4|4 int 5|5 load 0|6 cons 6|7 ret|", ""},
		{"f(X) -> [X | [X | []]].", "f/1 1|0 load 0|1 load 0|2 list 0|3 cons 2|4 cons 2|5 ret|", ""},
		{"f(X, Y) -> (X + Y).", "f/2 2|0 load 0|1 load 1|2 op +|3 ret|", ""},
		{"f(X, Y) -> ((X - 1) * (2 - Y)).", "f/2 2|0 load 0|1 int 1|2 op -|3 int 2|4 load 1|5 op -|6 op *|7 ret|", ""},
		{"f(X) -> ((X == 1) < (1 == X)).", "f/1 1|0 load 0|1 int 1|2 op ==|3 int 1|4 load 0|5 op ==|6 op <|7 ret|", ""},
		{"f() -> f().", "f/0 0|0 call f 0|1 ret|", ""},
		{"f(A, B) -> f({B}, f(A, 1)).", "f/2 2|0 load 1|1 tuple 1|2 load 0|3 int 1|4 call f 2|5 call f 2|6 ret|", ""},
		// Several that call one another, whatever their order.
		{"even(N) -> odd((N - 1)). odd(N) -> {even(N), last(), four(1, 2, 3, N)}. last() -> end_. four(A, B, C, D) -> C.", "even/1 1|0 load 0|1 int 1|2 op -|3 call odd 1|4 ret|odd/1 1|0 load 0|1 call even 1|2 call last 0|3 int 1|4 int 2|5 int 3|6 load 0|7 call four 4|8 tuple 3|9 ret|last/0 0|0 atom end_|1 ret|four/4 4|0 load 2|1 ret|", ""},
		// One clause, several, and what is behind them.
		{"f(X) -> case X of 1 -> 2 end.", "f/1 1|0 load 0|1 match 0 4|2 int 2|3 jump 5|4 fail|5 ret|", "1"},
		{"f() -> case 1 of A -> A end.", "f/0 1|0 int 1|1 match 0 4|2 load 0|3 jump 5|4 fail|5 ret|", "#0"},
		{"f() -> case 1 of _ -> 2 end.", "f/0 0|0 int 1|1 match 0 4|2 int 2|3 jump 5|4 fail|5 ret|", "_"},
		{"f(X) -> case X of 1 -> a; 2 -> b; _ -> {c, X} end.", "f/1 1|0 load 0|1 match 0 4|2 atom a|3 jump 13|4 match 1 7|5 atom b|6 jump 13|7 match 2 12|8 atom c|9 load 0|10 tuple 2|11 jump 13|12 fail|13 ret|", "1 ; 2 ; _"},
	} {
		compilesTo(t, x.text, x.want, x.pats)
	}
}

// TestCompileClauses: a case within a case, names that are bound anew, and patterns of every kind.
func TestCompileClauses(t *testing.T) {
	for _, x := range []struct{ text, want, pats string }{
		// In its E, in a clause, among others.
		{"f(X) -> case case X of {A} -> A end of [B] -> B end.", "f/1 3|0 load 0|1 match 0 4|2 load 1|3 jump 5|4 fail|5 match 1 8|6 load 2|7 jump 9|8 fail|9 ret|", "{#1} ; [#2]"},
		{"f(X) -> case X of {A} -> case A of [B] -> {A, B} end; C -> C end.", "f/1 4|0 load 0|1 match 0 10|2 load 1|3 match 1 8|4 load 1|5 load 2|6 tuple 2|7 jump 9|8 fail|9 jump 14|10 match 2 13|11 load 3|12 jump 14|13 fail|14 ret|", "{#1} ; [#2] ; #3"},
		{"f(X) -> {1, case X of A -> A end, case X of B -> B end}.", "f/1 3|0 int 1|1 load 0|2 match 0 5|3 load 1|4 jump 6|5 fail|6 load 0|7 match 1 10|8 load 2|9 jump 11|10 fail|11 tuple 3|12 ret|", "#1 ; #2"},
		{"f(X) -> (1 + case X of A -> g(A, X) end). g(A, B) -> case A of B -> B end.", "f/1 2|0 int 1|1 load 0|2 match 0 7|3 load 1|4 load 0|5 call g 2|6 jump 8|7 fail|8 op +|9 ret|g/2 3|0 load 0|1 match 1 4|2 load 2|3 jump 5|4 fail|5 ret|", "#1 ; #2"},
		// Bound anew within, and as they were behind it.
		{"f(A) -> {case A of A -> A end, A}.", "f/1 2|0 load 0|1 match 0 4|2 load 1|3 jump 5|4 fail|5 load 0|6 tuple 2|7 ret|", "#1"},
		{"f(A) -> case A of {A} -> {case A of [A] -> A; _ -> A end, A}; _ -> A end.", "f/1 3|0 load 0|1 match 0 13|2 load 1|3 match 1 6|4 load 2|5 jump 10|6 match 2 9|7 load 1|8 jump 10|9 fail|10 load 1|11 tuple 2|12 jump 17|13 match 3 16|14 load 0|15 jump 17|16 fail|17 ret|", "{#1} ; [#2] ; _ ; _"},
		{"f(A, B) -> case {A, B} of {B, A} -> {A, B}; [A, B] -> {A, B}; [A | _] -> {A, B}; _ -> {A, B} end.", "f/2 7|0 load 0|1 load 1|2 tuple 2|3 match 0 8|4 load 3|5 load 2|6 tuple 2|7 jump 24|8 match 1 13|9 load 4|10 load 5|11 tuple 2|12 jump 24|13 match 2 18|14 load 6|15 load 1|16 tuple 2|17 jump 24|18 match 3 23|19 load 0|20 load 1|21 tuple 2|22 jump 24|23 fail|24 ret|", "{#2, #3} ; [#4, #5] ; [#6 | _] ; _"},
		{"f(X) -> case X of A -> A; B -> case B of A -> {A, B} end; C -> C end.", "f/1 5|0 load 0|1 match 0 4|2 load 1|3 jump 17|4 match 1 13|5 load 2|6 match 2 11|7 load 3|8 load 2|9 tuple 2|10 jump 12|11 fail|12 jump 17|13 match 3 16|14 load 4|15 jump 17|16 fail|17 ret|", "#1 ; #2 ; #3 ; #4"},
		// Patterns of every kind.
		{"f(X) -> case X of {1, ok, A, _, {}, [], [B, _ | C], {[D], _}, [E | []], [1, 2 | F]} -> [F, E, D, C, B, A, X] end.", "f/1 7|0 load 0|1 match 0 11|2 load 6|3 load 5|4 load 4|5 load 3|6 load 2|7 load 1|8 load 0|9 list 7|10 jump 12|11 fail|12 ret|", "{1, ok, #1, _, {}, [], [#2, _ | #3], {[#4], _}, [#5 | []], [1, 2 | #6]}"},
		{"f(X) -> case X of {_, _, [_ | _]} -> 1; _ -> 2 end.", "f/1 1|0 load 0|1 match 0 4|2 int 1|3 jump 8|4 match 1 7|5 int 2|6 jump 8|7 fail|8 ret|", "{_, _, [_ | _]} ; _"},
		// Slots begin anew in each, patterns go on.
		{"f(X) -> case X of {A, B} -> B end. g() -> case 1 of A -> A; {B, A} -> A end. h(Y) -> Y. k(Z) -> case Z of [Y] -> Y end.", "f/1 3|0 load 0|1 match 0 4|2 load 2|3 jump 5|4 fail|5 ret|g/0 3|0 int 1|1 match 1 4|2 load 0|3 jump 8|4 match 2 7|5 load 2|6 jump 8|7 fail|8 ret|h/1 1|0 load 0|1 ret|k/1 2|0 load 0|1 match 3 4|2 load 1|3 jump 5|4 fail|5 ret|", "{#1, #2} ; #0 ; {#1, #2} ; [#1]"},
		{"f(X) -> case X of 1 -> 1; 2 -> 2; 3 -> 3; 4 -> 4; 5 -> 5; 6 -> 6 end.", "f/1 1|0 load 0|1 match 0 4|2 int 1|3 jump 20|4 match 1 7|5 int 2|6 jump 20|7 match 2 10|8 int 3|9 jump 20|10 match 3 13|11 int 4|12 jump 20|13 match 4 16|14 int 5|15 jump 20|16 match 5 19|17 int 6|18 jump 20|19 fail|20 ret|", "1 ; 2 ; 3 ; 4 ; 5 ; 6"},
	} {
		compilesTo(t, x.text, x.want, x.pats)
	}
}

func TestCompileWrongModules(t *testing.T) {
	refused := func(m impl.Module) {
		t.Helper()
		if c, ok := compiles(t, m); ok || len(c.Fns) > 0 || len(c.Pats) > 0 {
			t.Errorf("%q is compiled: %v, %+v", plainModuleText(m), ok, c)
		}
	}
	for _, s := range notRightTexts() {
		refused(moduleOf(t, s))
	}
	good := funX("good", caseX(varX("A"), clauseX(tupleX(varX("B")), varX("B"))), "A")
	for _, f := range wrongFuns() {
		refused(moduleX(f))
		refused(moduleX(f, good))
		refused(moduleX(good, f))
	}
	for _, e := range wrongExprs() {
		for _, x := range append(around(e), e) {
			refused(moduleX(good, funX("f", x)))
		}
	}
	var m impl.Module
	for i := range 14 {
		m.Funs = append(m.Funs, funX("f"+strconv.Itoa(i), intX(i)))
		if _, ok := compiles(t, m); ok != (i < 12) {
			t.Errorf("%d functions: %v", i+1, ok)
		}
	}
	if c, ok := impl.Compile(impl.Module{}); !ok || len(c.Fns) > 0 || len(c.Pats) > 0 || !impl.CodeOk(c) {
		t.Error("a module without functions is right:", ok, c)
	}
}

// casesX: an expression of so many cases of six clauses each, as flat as can be: 13 for each of them, and one more, in all.
func casesX(cases int, p func() impl.Expr) impl.Expr {
	root := varX("A")
	places := []*impl.Expr{&root}
	for range cases {
		at := places[0]
		*at = caseX(varX("A"), clausesX(6)...)
		places = places[1:]
		for i := range at.C {
			at.C[i] = clauseX(p(), varX("A"))
			places = append(places, &at.C[i].X)
		}
	}
	return root
}

// highX: tuples of 20 within each other, the last of each holding the next: as high as so many deep can be.
func highX(deep int) impl.Expr {
	e := intX(1)
	for range deep - 1 {
		e = tupleX(append(timesX(19, intX(1)), e)...)
	}
	return e
}

// TestCompileGreatest: what is compiled of the greatest modules is right.
func TestCompileGreatest(t *testing.T) {
	twelve := func(e impl.Expr) impl.Module {
		var m impl.Module
		for i := range 12 {
			m.Funs = append(m.Funs, funX("f"+strconv.Itoa(i), plainCopy(e), "A", "B", "C", "D"))
		}
		return m
	}
	whole := func(what string, e impl.Expr) impl.Code {
		t.Helper()
		c, ok := compiles(t, twelve(e))
		if !ok {
			t.Fatalf("%s: not right", what)
		}
		return c
	}
	// As many clauses as there may be, and so as many patterns, and Ins.
	for _, p := range []impl.Expr{varX("_"), varX("A"), varX("E"), intX(1), tupleX()} {
		c := whole("cases", casesX(23, func() impl.Expr { return p }))
		if len(c.Pats) != 12*23*6 || len(c.Fns[11].Ins) != 439 {
			t.Error(len(c.Pats), "patterns,", len(c.Fns[11].Ins), "Ins")
		}
		if p.K == impl.XVar && p.S != "_" && c.Fns[11].Slots != 4+23*6 {
			t.Error(c.Fns[11].Slots, "slots")
		}
	}
	if _, ok := compiles(t, twelve(tupleX(casesX(23, func() impl.Expr { return intX(1) })))); ok {
		t.Error("301 in all")
	}
	// As many names as there may be.
	names, _ := namesAndTerm(10)
	for many := 296; many <= 300; many++ {
		p := tupleX()
		for left, no := many-4, 0; left > 0; {
			row := tupleX()
			for left--; left > 0 && len(row.E) < 20; left-- {
				row.E = append(row.E, varX(nameNo(no)))
				no++
			}
			p.E = append(p.E, row)
		}
		c := whole("names", caseX(varX("A"), clauseX(p, varX(nameNo(7)))))
		if at := c.Fns[0].Ins[2]; at.Op != impl.InLoad || at.N != 4+7 || c.Fns[0].Slots < 280 {
			t.Errorf("%d in all: %+v, %d slots", many, at, c.Fns[0].Slots)
		}
	}
	whole("names", caseX(varX("A"), clauseX(names, varX("B"))))
	// As high, as deep and as wide as can be.
	for deep := 1; deep <= 10; deep++ {
		whole("high", highX(deep))
		if deep < 10 {
			whole("deep pattern", caseX(varX("A"), clauseX(nestedX(deep-1, varX("B")), varX("B"))))
		}
		for _, way := range deepWays {
			e := varX("A")
			for range deep - 1 {
				e = way.wrap(e)
			}
			m := moduleX(funX("g", e, "A"), funX("f", varX("X"), "X"))
			if _, ok := compiles(t, m); !ok {
				t.Errorf("%s, %d deep: not right", way.name, deep)
			}
		}
	}
	whole("wide", countedX(300))
	if _, ok := compiles(t, twelve(highX(11))); ok {
		t.Error("11 deep")
	}
	wide := tupleX()
	for range 14 {
		wide.E = append(wide.E, listX(timesX(20, varX("D"))...))
	}
	whole("wide", wide)
	// More tokens than are read: it is right, so it is compiled.
	great := moduleOfTokens(t, impl.MaxTokens+1)
	for i := range great.Funs {
		great.Funs[i].Name = "f" + strconv.Itoa(i)
	}
	if _, ok := compiles(t, great); !ok {
		t.Error("more tokens than are read: not right")
	}
}

// spoilCode changes one thing, most often to what is wrong.
func spoilCode(r *rand.Rand, c *impl.Code) {
	f := &c.Fns[r.Intn(len(c.Fns))]
	at := r.Intn(len(f.Ins))
	in := &f.Ins[at]
	number := []int{0, 1, 2, -1, in.N - 1, in.N + 1, f.Slots, 20, 21}[r.Intn(9)]
	switch r.Intn(13) {
	case 0:
		in.Op = r.Intn(14)
	case 1:
		in.N = number
	case 2:
		in.S = []string{"", "a", "f", "g", "+", "<", "case"}[r.Intn(7)]
	case 3, 4:
		in.To = []int{0, at, at + 1, at + 2, in.To - 1, in.To + 1, len(f.Ins) - 1, len(f.Ins)}[r.Intn(8)]
	case 5:
		f.Ins = slices.Delete(f.Ins, at, at+1)
	case 6:
		f.Ins = slices.Insert(f.Ins, at, []impl.Ins{{Op: impl.InInt}, {Op: impl.InFail}, {Op: impl.InRet}, {Op: impl.InTuple, N: 1}, {Op: impl.InTuple, N: 2}, {Op: impl.InJump, To: at + 1}, {Op: impl.InMatch, To: at + 2}}[r.Intn(7)])
	case 7:
		f.Name = c.Fns[r.Intn(len(c.Fns))].Name
	case 8:
		f.Args += r.Intn(5) - 2
	case 9:
		f.Slots += r.Intn(5) - 2
	case 10:
		if len(c.Pats) > 0 {
			spoilP(r, &c.Pats[r.Intn(len(c.Pats))])
		}
	case 11:
		c.Pats = c.Pats[:r.Intn(len(c.Pats)+1)]
	case 12:
		*in = f.Ins[r.Intn(len(f.Ins))]
	}
}

func TestCompileByAnotherWitness(t *testing.T) {
	w := &lively{r: rand.New(rand.NewSource(92))}
	var done, right, wrong, matches int
	for i := range 4000 {
		m := w.module()
		if i%2 == 0 {
			m = checkedModule(w.r)
		}
		c, ok := compiles(t, m)
		if !ok {
			continue
		}
		done++
		matches += len(c.Pats)
		for range 6 {
			spoilt := plainCopyCode(c)
			spoilCode(w.r, &spoilt)
			is := plainCodeOk(spoilt)
			codeIs(t, "spoilt code of "+plainModuleText(m), spoilt, is)
			if is {
				right++
			} else {
				wrong++
			}
		}
	}
	if done < 2000 || right < 1000 || wrong < 5000 || matches < 5000 {
		t.Error("too few to tell anything:", done, right, wrong, matches)
	}
}

// TestCompileRenamed: another name of a function, and less functions, change nothing else in the code.
func TestCompileRenamed(t *testing.T) {
	m := moduleOf(t, "f(X) -> case X of {A, _} -> g(A, h()); [H | T] -> f(T) end. g(X, Y) -> case Y of Z -> {X, Z, Y} end. h() -> 1.")
	own, _ := impl.Rename(m, "g", "new")
	c, _ := compiles(t, m)
	d, _ := compiles(t, own)
	if got, want := impl.CodeText(d), strings.ReplaceAll(strings.ReplaceAll(impl.CodeText(c), "g/", "new/"), "call g", "call new"); got != want || patTexts(c.Pats) != patTexts(d.Pats) {
		t.Errorf("%q, not %q", got, want)
	}
	less, _ := impl.Trim(m, "g")
	e, _ := compiles(t, less)
	if len(e.Fns) != 1 || !sameFn(e.Fns[0], impl.Fn{Name: "g", Args: 2, Slots: 3, Ins: asm("load 1; match 0 7; load 0; load 2; load 1; tuple 3; jump 8; fail; ret")}) {
		t.Error(e)
	}
}

// TestCodeLeavesArgumentsAlone: and what stands behind a list's length is neither read nor written.
func TestCodeLeavesArgumentsAlone(t *testing.T) {
	buildCode := func() ([]impl.Fn, []impl.Pat, []impl.Ins, []impl.Pat) {
		ins := append(asm("load 0; match 0 4; load 1; jump 5; fail; ret"), asm("fail; int 1")...)
		parts := []impl.Pat{slotP(1), slotP(-1), slotP(1), {K: 99}}
		fns := []impl.Fn{{Name: "f", Args: 1, Slots: 2, Ins: ins[:6]}, fnOf("g", 0, 0, "fail"), fnOf("f", 0, 0, "ret"), {}}
		pats := []impl.Pat{{K: impl.XTuple, E: parts[:2]}, {K: 99}, {}}
		return fns, pats, ins, parts
	}
	fns, pats, ins, parts := buildCode()
	wantFns, wantPats, wantIns, wantParts := buildCode()
	c := impl.Code{Fns: fns[:2], Pats: pats[:1]}
	codeIs(t, "with room behind", c, true)
	fitsSlots(t, "with room behind", c.Pats[0], 2, true)
	fitsSlots(t, "with what was behind", impl.Pat{K: impl.XTuple, E: parts[:3]}, 2, false)
	codeIs(t, "with what was behind", impl.Code{Fns: fns[:3], Pats: pats}, false)
	ins[1].N = 1
	codeIs(t, "a pattern behind the length", c, false)
	ins[1].N = 0
	ins[3].To = 6
	codeIs(t, "an Ins behind the length", c, false)
	ins[3].To = 5
	ins[0] = impl.Ins{Op: impl.InCall, S: "h"}
	fns[2] = fnOf("h", 0, 0, "fail")
	codeIs(t, "a Fn behind the length", c, false)
	ins[0], fns[2] = wantIns[0], fnOf("f", 0, 0, "ret")
	if !slices.EqualFunc(fns, wantFns, sameFn) || !slices.EqualFunc(pats, wantPats, samePat) || !slices.Equal(ins, wantIns) || !slices.EqualFunc(parts, wantParts, samePat) {
		t.Error("a call wrote into its argument, or behind it")
	}
	build := func() ([]impl.Fun, []string, []impl.Expr, []impl.Clause, []impl.Expr) {
		params := []string{"A", "B", "C", "D", "E"}
		exprs := []impl.Expr{varX("A"), varX("B"), varX("Z"), {K: 99}}
		row := []impl.Expr{varX("H"), varX("B"), varX("Q"), {K: 99}}
		clauses := []impl.Clause{clauseX(impl.Expr{K: impl.XCons, E: row[:2]}, impl.Expr{K: impl.XTuple, E: exprs[:2]}), clauseX(varX("Y"), varX("Z")), {}}
		funs := []impl.Fun{{Name: "f", Params: params[:2], X: impl.Expr{K: impl.XCase, E: exprs[1:2], C: clauses[:1]}}, {Name: "g"}, {Name: "f"}}
		return funs, params, exprs, clauses, row
	}
	funs, params, exprs, clauses, row := build()
	wantFuns, wantParams, wantExprs, wantClauses, wantRow := build()
	got, ok := compiles(t, impl.Module{Funs: funs[:1]})
	if text := impl.CodeText(got); !ok || text != "f/2 4\n0 load 1\n1 match 0 6\n2 load 0\n3 load 3\n4 tuple 2\n5 jump 7\n6 fail\n7 ret\n" || patTexts(got.Pats) != "[#2 | #3]" {
		t.Errorf("%v, %q, %s", ok, text, patTexts(got.Pats))
	}
	if _, ok := compiles(t, impl.Module{Funs: funs[:2]}); ok {
		t.Error("with what was behind")
	}
	if !plainSameModule(impl.Module{Funs: funs}, impl.Module{Funs: wantFuns}) || !slices.Equal(params, wantParams) || !plainSame(impl.Expr{E: exprs, C: clauses}, impl.Expr{E: wantExprs, C: wantClauses}) || !plainSame(tupleX(row...), tupleX(wantRow...)) {
		t.Error("Compile wrote into its argument, or behind it")
	}
}

// TestCodeSharesNoMemory: lists that are one in the argument are apart in the answer, and its texts are its own.
func TestCodeSharesNoMemory(t *testing.T) {
	both := []impl.Expr{varX("A"), atomX("b")}
	p := impl.Expr{K: impl.XList, E: both}
	clauses := []impl.Clause{clauseX(p, impl.Expr{K: impl.XTuple, E: both}), clauseX(p, impl.Expr{K: impl.XCall, S: "f", E: both})}
	x := impl.Expr{K: impl.XCase, E: both[:1], C: clauses}
	params := []string{"A", "B"}
	m := moduleX(impl.Fun{Name: "f", Params: params, X: x}, impl.Fun{Name: "g", Params: params[:1], X: tupleX(x, x)})
	c, ok := compiles(t, m)
	if got := patTexts(c.Pats); !ok || got != "[#2, b] ; [#3, b] ; [#1, b] ; [#2, b] ; [#3, b] ; [#4, b]" {
		t.Error(ok, got)
	}
	// What is answered may be written into, up to its room, and nothing else changes.
	want, _ := plainCompile(m)
	for i := range c.Pats {
		for k := range c.Pats {
			if k > i && !samePat(c.Pats[k], want.Pats[k]) {
				t.Error("patterns", i, "and", k, "are not apart")
			}
		}
		room := c.Pats[i].E[:cap(c.Pats[i].E)]
		for k := range room {
			room[k] = intP(77)
		}
	}
	room := c.Fns[0].Ins[:cap(c.Fns[0].Ins)]
	clear(room)
	if !sameFn(c.Fns[1], want.Fns[1]) {
		t.Error("two lists of Ins are not apart")
	}
	if again, _ := impl.Compile(m); !plainSameCode(again, want) {
		t.Error("a second call is not as the first")
	}
	// Texts over bytes that change.
	b := []byte("nameatomother+Abc")
	name, atom, other, op, param := unsafe.String(&b[0], 4), unsafe.String(&b[4], 4), unsafe.String(&b[8], 5), unsafe.String(&b[13], 1), unsafe.String(&b[14], 3)
	m = moduleX(funX(name, caseX(varX(param), clauseX(tupleX(atomX(atom), varX(param)), opX(op, callX(other), atomX(atom)))), param), funX(other, atomX(other)))
	c, ok = impl.Compile(m)
	text := impl.CodeText(impl.Code{Fns: []impl.Fn{{Name: name, Ins: []impl.Ins{{Op: impl.InAtom, S: atom}, {Op: impl.InRet}}}}})
	if string(b) != "nameatomother+Abc" {
		t.Error("a text was written into")
	}
	overwrite(b)
	if got := impl.CodeText(c); !ok || got != "name/1 2\n0 load 0\n1 match 0 6\n2 call other 0\n3 atom atom\n4 op +\n5 jump 7\n6 fail\n7 ret\nother/0 0\n0 atom other\n1 ret\n" || patTexts(c.Pats) != "{atom, #1}" {
		t.Errorf("Compile: %v, %q, %s", ok, got, patTexts(c.Pats))
	}
	if text != "name/0 0\n0 atom atom\n1 ret\n" {
		t.Errorf("CodeText: %q", text)
	}
}

// TestCodeEndsOnAnything: arguments that are very deep, share very often, or have no end.
func TestCodeEndsOnAnything(t *testing.T) {
	const deep = 100000
	ring := []impl.Pat{intP(1), {K: impl.XTuple}}
	ring[1].E = ring
	alone := []impl.Pat{{K: impl.XList}}
	alone[0].E = alone
	doubled := intP(1)
	for range 3000 {
		doubled = tupleP(doubled, doubled)
	}
	wide := tupleP(timesP(20, tupleP(timesP(20, tupleP(timesP(20, slotP(-1))...))...))...)
	for i, p := range []impl.Pat{ring[1], alone[0], doubled, wide, nestedP(impl.XList, deep, intP(1)), tupleP(timesP(deep, slotP(-1))...), atomP(strings.Repeat("a", 10*deep)), {K: impl.XVar, S: strings.Repeat("a", 10*deep)}} {
		for _, slots := range []int{-1, 0, 5, 400, 401} {
			if impl.PatFits(p, slots) || impl.PatFits(tupleP(slotP(-1), p), slots) {
				t.Error("pattern", i, "fits", slots)
			}
		}
		c := impl.Code{Fns: []impl.Fn{fnOf("f", 0, 0, "int 1; match 1 3; fail; ret")}, Pats: []impl.Pat{p, slotP(-1)}}
		if !impl.CodeOk(c) || impl.CodeText(c) != "f/0 0\n0 int 1\n1 match 1 3\n2 fail\n3 ret\n" {
			t.Error("pattern", i, "is named by none")
		}
		slices.Reverse(c.Pats)
		if impl.CodeOk(c) || impl.CodeText(c) != "" {
			t.Error("pattern", i, "is named")
		}
	}
	long := strings.Repeat("a", 10*deep)
	for i, c := range []impl.Code{{Pats: make([]impl.Pat, deep)}, {Fns: make([]impl.Fn, deep)}, {Fns: []impl.Fn{{Name: "f", Ins: make([]impl.Ins, 10*deep)}}}, {Fns: []impl.Fn{{Name: long, Ins: asm("fail")}}}, {Fns: []impl.Fn{{Name: "f", Ins: []impl.Ins{{Op: impl.InCall, S: long}, {Op: impl.InRet}}}}}, {Fns: []impl.Fn{{Name: "f", Slots: math.MaxInt, Ins: []impl.Ins{{Op: impl.InLoad, N: math.MaxInt - 1}, {Op: impl.InRet}}}}}} {
		if impl.CodeOk(c) || impl.CodeText(c) != "" {
			t.Error("code", i)
		}
	}
	nest := intX(1)
	for range deep {
		nest = tupleX(nest)
	}
	loop := []impl.Expr{intX(1), {K: impl.XTuple}}
	loop[1].E = loop
	for i, e := range []impl.Expr{loop[1], nest, doubledX(40, intX(1)), doubledX(3000, callX("g")), doubledCase(40, "A", "B", intX(1)), tupleX(timesX(deep, intX(1))...)} {
		for _, m := range []impl.Module{moduleX(funX("f", e)), moduleX(funX("f", intX(1)), funX("g", e))} {
			if c, ok := impl.Compile(m); ok || len(c.Fns) > 0 || len(c.Pats) > 0 {
				t.Error("expression", i)
			}
		}
	}
	if c, ok := impl.Compile(moduleX(slices.Repeat([]impl.Fun{funX("f", intX(1))}, deep)...)); ok || len(c.Fns) > 0 {
		t.Error("very many functions")
	}
}

// TestCodeOkOfMostWork: as many Fns, Ins, matches and patterns as there may be.
func TestCodeOkOfMostWork(t *testing.T) {
	p := manySlots(280)
	p.E = append(p.E, timesP(5, slotP(-1))...)
	c := impl.Code{Pats: timesP(2000, p)}
	for i := range 12 {
		f := impl.Fn{Name: "f" + strconv.Itoa(i), Args: 4, Slots: 400}
		for at := 0; at < 1497; at += 3 {
			f.Ins = append(f.Ins, impl.Ins{Op: impl.InLoad, N: at % 400}, impl.Ins{Op: impl.InMatch, N: (i*500 + at) % 2000, To: at + 3}, impl.Ins{Op: impl.InFail})
		}
		// Each is come to from the one ahead, with one more on the stack, which is taken here again.
		for at := 3; at < 1497; at += 3 {
			f.Ins[at] = impl.Ins{Op: impl.InTuple, N: 1}
		}
		f.Ins = append(f.Ins, impl.Ins{Op: impl.InTuple, N: 1}, impl.Ins{Op: impl.InList, N: 1}, impl.Ins{Op: impl.InRet})
		c.Fns = append(c.Fns, f)
	}
	if !impl.CodeOk(c) || strings.Count(impl.CodeText(c), "\n") != 12*1501 {
		t.Error("not right")
	}
	c.Fns[11].Ins[1499].Op = impl.InJump
	if impl.CodeOk(c) {
		t.Error("the very last is wrong")
	}
}
