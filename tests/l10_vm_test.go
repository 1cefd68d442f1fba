package tests

import (
	"fmt"
	"math"
	"math/rand"
	"slices"
	"strconv"
	"strings"
	"testing"
	"unsafe"

	"loop.example/g00236/impl"
)

// nothing stands in texts of machines for a slot that is zero.
const nothing = "nothing"

// slotsFrom: the terms of a text such as "1, nothing, [a], <3>".
func slotsFrom(t *testing.T, s string) []impl.Term {
	t.Helper()
	l := termFrom(t, "["+strings.NewReplacer("<", "pid(", ">", ")").Replace(s)+"]").L
	for i := range l {
		if l[i].S == nothing {
			l[i] = impl.Term{}
		}
	}
	return l
}

// vmFrom: the machine of a text such as "0 3 1, nothing; 1 0 | 7, {}": of each Frame F, Pc and slots; then the Stack.
func vmFrom(t *testing.T, s string) impl.Vm {
	t.Helper()
	frames, stack, _ := strings.Cut(s, "|")
	v := impl.Vm{Stack: slotsFrom(t, stack)}
	for one := range strings.SplitSeq(frames, ";") {
		words := strings.Fields(one)
		if len(words) == 0 {
			continue
		}
		f, _ := strconv.Atoi(words[0])
		pc, _ := strconv.Atoi(words[1])
		v.Frames = append(v.Frames, impl.Frame{F: f, Pc: pc, Slots: slotsFrom(t, strings.Join(words[2:], " "))})
	}
	return v
}

// vmText: a machine as a text; terms that are not right have none.
func vmText(v impl.Vm) string {
	texts := func(l []impl.Term) string {
		var all []string
		for _, x := range l {
			s := impl.TermText(x)
			if alikeTerms(x, impl.Term{}) {
				s = nothing
			}
			all = append(all, s)
		}
		return strings.Join(all, ", ")
	}
	var frames []string
	for _, f := range v.Frames {
		frames = append(frames, strings.TrimSpace(fmt.Sprint(f.F, " ", f.Pc, " ", texts(f.Slots))))
	}
	return strings.TrimSpace(strings.Join(frames, "; ") + " | " + texts(v.Stack))
}

func alikeFrames(a impl.Frame, b impl.Frame) bool {
	return a.F == b.F && a.Pc == b.Pc && slices.EqualFunc(a.Slots, b.Slots, alikeTerms)
}

func alikeVms(a impl.Vm, b impl.Vm) bool {
	return slices.EqualFunc(a.Frames, b.Frames, alikeFrames) && slices.EqualFunc(a.Stack, b.Stack, alikeTerms)
}

func plainCopyVm(v impl.Vm) impl.Vm {
	own := impl.Vm{Stack: plainCopyTerms(v.Stack)}
	for _, f := range v.Frames {
		f.Slots = plainCopyTerms(f.Slots)
		own.Frames = append(own.Frames, f)
	}
	return own
}

func vmListSpans(v impl.Vm) []span {
	l := append(listSpan(v.Frames), termListSpans(v.Stack)...)
	for _, f := range v.Frames {
		l = append(l, termListSpans(f.Slots)...)
	}
	return l
}

func vmSpans(v impl.Vm) []span {
	l := append(vmListSpans(v), termTextSpans(v.Stack)...)
	for _, f := range v.Frames {
		l = append(l, termTextSpans(f.Slots)...)
	}
	return l
}

// vmApart: a machine that is answered shares no memory with an argument, nor do two of its lists.
func vmApart(t *testing.T, what string, v impl.Vm, args ...[]span) {
	t.Helper()
	if meeting(vmSpans(v), append([]span{}, slices.Concat(args...)...)) {
		t.Fatalf("%s: the answer shares memory with an argument: %s", what, vmText(v))
	}
	if meeting(vmListSpans(v), nil) {
		t.Fatalf("%s: two lists of the answer share memory: %s", what, vmText(v))
	}
}

func plainTakes(in impl.Ins) int {
	return map[int]int{impl.InTuple: in.N, impl.InList: in.N, impl.InCons: in.N, impl.InCall: in.N, impl.InOp: 2, impl.InMatch: 1, impl.InRet: 1}[in.Op]
}

// vmHeights: of code that is right the height at each Ins.
func vmHeights(l []impl.Ins) []int {
	heights := slices.Repeat([]int{-1}, len(l))
	var come func(at int, height int)
	come = func(at int, height int) {
		if heights[at] >= 0 {
			return
		}
		in := l[at]
		heights[at] = height
		switch in.Op {
		case impl.InJump:
			come(in.To, height)
		case impl.InMatch:
			come(in.To, height)
			come(at+1, height-1)
		case impl.InFail, impl.InRet:
		default:
			come(at+1, height-plainTakes(in)+1)
		}
	}
	come(0, 0)
	return heights
}

// plainVmOk: the chapter's words once more; what a Frame has that waits is told from ahead of its InCall.
func plainVmOk(c impl.Code, v impl.Vm) bool {
	if !plainCodeOk(c) || len(v.Frames) == 0 || len(v.Frames) > 40 {
		return false
	}
	wrong := func(x impl.Term) bool { return !plainTermOk(x) }
	high := 0
	for i, f := range v.Frames {
		if f.F < 0 || f.F >= len(c.Fns) || f.Pc < 0 || f.Pc >= len(c.Fns[f.F].Ins) || len(f.Slots) != c.Fns[f.F].Slots {
			return false
		}
		if slices.ContainsFunc(f.Slots, func(x impl.Term) bool { return wrong(x) && !alikeTerms(x, impl.Term{}) }) {
			return false
		}
		heights := vmHeights(c.Fns[f.F].Ins)
		if i == len(v.Frames)-1 {
			high += heights[f.Pc]
			continue
		}
		next := v.Frames[i+1].F
		if f.Pc == 0 || next < 0 || next >= len(c.Fns) {
			return false
		}
		in := c.Fns[f.F].Ins[f.Pc-1]
		if in.Op != impl.InCall || in.S != c.Fns[next].Name {
			return false
		}
		high += heights[f.Pc-1] - in.N
	}
	return len(v.Stack) == high && !slices.ContainsFunc(v.Stack, wrong)
}

// plainStep: the chapter's words once more; patterns are held against terms by names.
func plainStep(c impl.Code, v impl.Vm) (impl.Vm, impl.Term, int) {
	was := plainCopyVm(v)
	if !plainVmOk(c, v) {
		return was, impl.Term{}, impl.EvForm
	}
	v = plainCopyVm(v)
	f := &v.Frames[len(v.Frames)-1]
	in := c.Fns[f.F].Ins[f.Pc]
	rest := len(v.Stack) - plainTakes(in)
	top := plainCopyTerms(v.Stack[rest:])
	x, fault := impl.Term{N: in.N, S: in.S, L: top}, impl.EvGood
	switch in.Op {
	case impl.InInt:
		x.K = impl.TInt
	case impl.InAtom:
		x.K = impl.TAtom
	case impl.InLoad:
		x = f.Slots[in.N]
		if alikeTerms(x, impl.Term{}) {
			fault = impl.EvForm
		}
	case impl.InTuple:
		x = tupleTerm(top...)
	case impl.InList:
		x = listTerm(top...)
	case impl.InCons:
		x = listTerm(slices.Concat(top[:in.N-1], top[in.N-1].L)...)
		if top[in.N-1].K != impl.TList {
			fault = impl.EvArith
		}
	case impl.InOp:
		x, fault = plainOperate(in.S, top[0], top[1])
	case impl.InCall:
		if len(v.Frames) == 40 {
			return was, impl.Term{}, impl.EvDeep
		}
		at := slices.IndexFunc(c.Fns, func(f impl.Fn) bool { return f.Name == in.S })
		f.Pc++
		v.Stack = v.Stack[:rest]
		v.Frames = append(v.Frames, impl.Frame{F: at, Slots: append(top, make([]impl.Term, c.Fns[at].Slots-in.N)...)})
		return v, impl.Term{}, impl.VmMore
	case impl.InMatch:
		p, _ := exprOfPat(c.Pats[in.N], 400)
		l, ok := plainMatch(p, top[0])
		f.Pc++
		if !ok {
			f.Pc = in.To
			return v, impl.Term{}, impl.VmMore
		}
		for _, b := range l {
			slot, _ := strconv.Atoi(b.Name[1:])
			f.Slots[slot] = b.T
		}
		v.Stack = v.Stack[:rest]
		return v, impl.Term{}, impl.VmMore
	case impl.InJump:
		f.Pc = in.To
		return v, impl.Term{}, impl.VmMore
	case impl.InFail:
		return was, impl.Term{}, impl.EvMatch
	case impl.InRet:
		if len(v.Frames) == 1 {
			return impl.Vm{}, top[0], impl.EvGood
		}
		v.Frames = v.Frames[:len(v.Frames)-1]
		return v, impl.Term{}, impl.VmMore
	}
	if fault == impl.EvGood && !plainTermOk(x) {
		fault = impl.EvBig
	}
	if fault != impl.EvGood {
		return was, impl.Term{}, fault
	}
	f.Pc++
	v.Stack = append(v.Stack[:rest], x)
	return v, impl.Term{}, impl.VmMore
}

func plainNew(c impl.Code, name string, args []impl.Term) (impl.Vm, bool) {
	at := slices.IndexFunc(c.Fns, func(f impl.Fn) bool { return f.Name == name && f.Args == len(args) })
	if !plainCodeOk(c) || at < 0 || slices.ContainsFunc(args, func(x impl.Term) bool { return !plainTermOk(x) }) {
		return impl.Vm{}, false
	}
	return impl.Vm{Frames: []impl.Frame{{F: at, Slots: append(plainCopyTerms(args), make([]impl.Term, c.Fns[at].Slots-len(args))...)}}}, true
}

// news: what VmNew answers is as the witness has it, right, and in memory of its own; it leaves its arguments as they are.
func news(t *testing.T, c impl.Code, name string, args []impl.Term) (impl.Vm, bool) {
	t.Helper()
	want, wanted := plainNew(c, name, args)
	kept, keptArgs := plainCopyCode(c), plainCopyTerms(args)
	v, ok := impl.VmNew(c, name, args)
	if ok != wanted || !alikeVms(v, want) {
		t.Fatalf("%s of %+v: %v, %s, not %v, %s", name, args, ok, vmText(v), wanted, vmText(want))
	}
	if !plainSameCode(c, kept) || !slices.EqualFunc(args, keptArgs, alikeTerms) {
		t.Fatalf("%s of %+v: VmNew wrote into its argument", name, keptArgs)
	}
	vmApart(t, "VmNew", v, codeSpans(c), termSpans(args), textSpan(name))
	if ok {
		vmIs(t, "new", c, v, true)
	}
	return v, ok
}

// vmIs: what VmOk answers is this, and as the witness has it; it leaves its arguments as they are.
func vmIs(t *testing.T, what string, c impl.Code, v impl.Vm, want bool) {
	t.Helper()
	kept, keptVm := plainCopyCode(c), plainCopyVm(v)
	if got := impl.VmOk(c, v); got != want || plainVmOk(c, v) != want {
		t.Errorf("%s: %s: %v, the witness %v, not %v", what, vmText(v), got, plainVmOk(c, v), want)
	}
	if !plainSameCode(c, kept) || !alikeVms(v, keptVm) {
		t.Errorf("%s: %s: VmOk wrote into its argument", what, vmText(keptVm))
	}
}

// steps: what VmStep answers is as the witness has it, in memory of its own; what goes on is right, and a fault leaves all as it was; it leaves its arguments as they are.
func steps(t *testing.T, c impl.Code, v impl.Vm) (impl.Vm, impl.Term, int) {
	t.Helper()
	want, wantTerm, wanted := plainStep(c, v)
	kept, keptVm := plainCopyCode(c), plainCopyVm(v)
	next, x, code := impl.VmStep(c, v)
	if code != wanted || !alikeTerms(x, wantTerm) || !alikeVms(next, want) {
		t.Fatalf("%s: %d, %+v, %s, not %d, %+v, %s", vmText(v), code, x, vmText(next), wanted, wantTerm, vmText(want))
	}
	if !plainSameCode(c, kept) || !alikeVms(v, keptVm) {
		t.Fatalf("%s: VmStep wrote into its argument", vmText(keptVm))
	}
	args := slices.Concat(codeSpans(c), vmSpans(v))
	vmApart(t, "VmStep", next, args)
	termsApart(t, "VmStep", x, nil, args)
	switch code {
	case impl.VmMore:
		vmIs(t, "behind a step", c, next, true)
	case impl.EvGood:
		if len(next.Frames) > 0 || len(next.Stack) > 0 {
			t.Fatalf("%s: something is left: %s", vmText(v), vmText(next))
		}
	default:
		if !alikeVms(next, keptVm) || !alikeTerms(x, impl.Term{}) {
			t.Fatalf("%s: a fault changed something: %s, %+v", vmText(keptVm), vmText(next), x)
		}
	}
	return next, x, code
}

// runsWithin: VmRun with these steps answers this, in memory of its own; it leaves its arguments as they are.
func runsWithin(t *testing.T, c impl.Code, name string, args []impl.Term, most int, want impl.Term, wanted int) {
	t.Helper()
	kept, keptArgs := plainCopyCode(c), plainCopyTerms(args)
	x, code := impl.VmRun(c, name, args, most)
	if code != wanted || !alikeTerms(x, want) {
		t.Fatalf("%s of %+v in %q with %d: %d, %+v, not %d, %+v", name, args, plainCodeText(c), most, code, x, wanted, want)
	}
	if !plainSameCode(c, kept) || !slices.EqualFunc(args, keptArgs, alikeTerms) {
		t.Fatalf("%s of %+v: VmRun wrote into its argument", name, keptArgs)
	}
	termsApart(t, "VmRun", x, nil, codeSpans(c), termSpans(args), textSpan(name))
}

// runs: VmRun answers what steps one by one come to, and needs just as many; beyond most of them the count is -1.
func runs(t *testing.T, c impl.Code, name string, args []impl.Term, most int) (impl.Term, int, int) {
	t.Helper()
	v, ok := news(t, c, name, args)
	if !ok {
		for _, n := range []int{-1, 0, 1, 100000, 100001} {
			runsWithin(t, c, name, args, n, impl.Term{}, impl.EvForm)
		}
		return impl.Term{}, impl.EvForm, 0
	}
	var x impl.Term
	code, count := impl.VmMore, 0
	for ; code == impl.VmMore; count++ {
		if count == most {
			runsWithin(t, c, name, args, most, impl.Term{}, impl.EvFuel)
			return impl.Term{}, impl.EvFuel, -1
		}
		v, x, code = steps(t, c, v)
	}
	for _, n := range []int{count, count + 1, 2*count + 1, 100000} {
		runsWithin(t, c, name, args, n, x, code)
	}
	for _, n := range []int{0, count / 2, count - 1} {
		runsWithin(t, c, name, args, n, impl.Term{}, impl.EvFuel)
	}
	for _, n := range []int{-1, 100001} {
		runsWithin(t, c, name, args, n, impl.Term{}, impl.EvForm)
	}
	return x, code, count
}

// runsAs: what is compiled of a module comes to what it is evaluated to.
func runsAs(t *testing.T, m impl.Module, name string, args []impl.Term, want string) {
	t.Helper()
	c, ok := impl.Compile(m)
	if !ok {
		t.Fatalf("%q: not compiled", plainModuleText(m))
	}
	if got := came(impl.VmRun(c, name, args, 100000)); got != want {
		t.Errorf("%s of %+v in %q, compiled: %s, not %s", name, args, plainModuleText(m), got, want)
	}
}

// vmCode: Fns of which each Ins of interest is one; f is 0, g 1, h 2.
func vmCode() impl.Code {
	return impl.Code{
		Fns: []impl.Fn{
			fnOf("f", 1, 3, "load 0; call g 1; int 5; atom a; load 1; call h 2; tuple 3; match 0 10; load 1; jump 11; fail; ret"),
			fnOf("g", 1, 1, "int 1; load 0; call h 2; ret"),
			fnOf("h", 2, 2, "load 0; load 1; op +; ret"),
		},
		Pats: []impl.Pat{tupleP(slotP(1), slotP(-1), slotP(2))},
	}
}

func TestVmMore(t *testing.T) {
	if impl.VmMore != 7 {
		t.Error(impl.VmMore)
	}
}

func TestVmNew(t *testing.T) {
	c := vmCode()
	many := map[string]int{"f": 1, "g": 1, "h": 2}
	for _, name := range []string{"f", "g", "h", "", "F", "a", "ff", "f ", "f/1", "z", "case", twentySmall} {
		for n := range 7 {
			want, there := many[name]
			if _, ok := news(t, c, name, timesTerm(n, intTerm(n))); ok != (there && want == n) {
				t.Errorf("%s of %d: %v", name, n, ok)
			}
		}
	}
	for name, want := range map[string]string{"f": "0 0 {7,[a]}, nothing, nothing |", "g": "1 0 {7,[a]} |", "h": "2 0 {7,[a]}, {7,[a]} |"} {
		v, ok := news(t, c, name, timesTerm(many[name], termFrom(t, "{7, [a]}")))
		if got := vmText(v); !ok || got != want {
			t.Errorf("%s: %v, %s, not %s", name, ok, got, want)
		}
	}
	// Args that are not right, also where nothing asks for them.
	for _, wrong := range wrongTerms() {
		for _, x := range []impl.Term{wrong, tupleTerm(wrong), listTerm(intTerm(1), wrong)} {
			for _, args := range [][]impl.Term{{x, intTerm(1)}, {intTerm(1), x}, {x, x}} {
				if _, ok := news(t, c, "h", args); ok {
					t.Errorf("with a wrong arg: %+v", args)
				}
			}
		}
	}
	for _, x := range termForms {
		if v, ok := news(t, c, "f", []impl.Term{x.t}); !ok || vmText(v) != "0 0 "+x.text+", nothing, nothing |" {
			t.Errorf("%s: %v, %s", x.text, ok, vmText(v))
		}
	}
	// As few and as many args and slots as there may be.
	for args := range 5 {
		for _, slots := range []int{args, args + 1, 399, 400} {
			v, ok := news(t, impl.Code{Fns: []impl.Fn{fnOf("g", 0, 0, "fail"), fnOf("f", args, slots, "fail")}}, "f", timesTerm(args, atomTerm("x")))
			if !ok || len(v.Frames) != 1 || v.Frames[0].F != 1 || v.Frames[0].Pc != 0 || len(v.Frames[0].Slots) != slots || len(v.Stack) != 0 {
				t.Errorf("%d args, %d slots: %v, %s", args, slots, ok, vmText(v))
			}
		}
	}
	for _, c := range []impl.Code{{}, {Pats: []impl.Pat{slotP(0)}}} {
		for _, name := range []string{"", "f"} {
			if _, ok := news(t, c, name, nil); ok {
				t.Error("of code without Fns")
			}
		}
	}
}

// wrongCodes: each has one fault alone; `f` of no args is right in all of them, unless it is that which is wrong.
func wrongCodes() []impl.Code {
	right := fnOf("f", 0, 1, "int 1; call f 0; match 0 4; fail; fail")
	with := func(l ...impl.Fn) impl.Code {
		return impl.Code{Fns: append([]impl.Fn{right}, l...), Pats: []impl.Pat{slotP(0)}}
	}
	l := []impl.Code{
		{Fns: []impl.Fn{right}}, {Fns: []impl.Fn{right}, Pats: []impl.Pat{slotP(1)}}, {Fns: []impl.Fn{right}, Pats: slices.Repeat([]impl.Pat{slotP(0)}, 2001)},
		with(right), with(impl.Fn{}), with(fnOf("g", 0, 0, "int 1; int 2; ret")), with(fnOf("g", 0, 0, "ret")), with(fnOf("g", 0, 0, "int 1")), with(fnOf("g", 1, 0, "fail")), with(fnOf("g", 0, 0, "load 0; ret")), with(fnOf("g", 0, 0, "call h 0; ret")), with(fnOf("g", 0, 0, "jump 0; fail")), with(fnOf("g", 0, 0, "fail; fail")), with(fnOf("g", 0, 0, "int 1; ret; int 2; ret")), with(fnOf("G", 0, 0, "fail")),
	}
	many := with()
	for i := range 12 {
		many.Fns = append(many.Fns, fnOf("f"+strconv.Itoa(i), 0, 0, "fail"))
	}
	return append(l, many)
}

// TestVmWrongCode: of code that is not right there is no machine, though what is asked for is right in it.
func TestVmWrongCode(t *testing.T) {
	for i, c := range wrongCodes() {
		what := fmt.Sprint("code ", i)
		codeIs(t, what, c, false)
		if _, ok := news(t, c, "f", nil); ok {
			t.Error(what, "has a machine")
		}
		for _, text := range []string{"0 0 nothing |", "0 1 nothing | 1", "0 2 7 | 1, 2", "0 2 7; 0 0 nothing | 1", "1 0 |", "|"} {
			v := vmFrom(t, text)
			vmIs(t, what, c, v, false)
			if next, x, code := steps(t, c, v); code != impl.EvForm || !alikeVms(next, v) || !alikeTerms(x, impl.Term{}) {
				t.Error(what, vmText(v), code)
			}
		}
		if _, code, _ := runs(t, c, "f", nil, 10); code != impl.EvForm {
			t.Error(what, "runs:", code)
		}
	}
	// Nothing comes to these Ins, so that there is no height at them.
	for at := range 4 {
		c := impl.Code{Fns: []impl.Fn{fnOf("f", 0, 0, "int 1; ret; int 2; ret")}}
		for _, high := range []int{0, 1, 2} {
			vmIs(t, "an Ins that is come to by none", c, impl.Vm{Frames: []impl.Frame{{Pc: at}}, Stack: timesTerm(high, intTerm(1))}, false)
		}
	}
}

// deepVm: so many Frames of h, which calls itself with what is on top of another term.
func deepVm(many int) (impl.Code, impl.Vm) {
	c := impl.Code{Fns: []impl.Fn{fnOf("h", 1, 1, "load 0; load 0; call h 1; tuple 2; ret")}}
	v := impl.Vm{}
	for range many {
		v.Frames = append(v.Frames, impl.Frame{Pc: 3, Slots: []impl.Term{intTerm(1)}})
		v.Stack = append(v.Stack, intTerm(2))
	}
	if many > 0 {
		v.Frames[many-1].Pc = 1
	}
	return c, v
}

func TestVmOkFrames(t *testing.T) {
	c := vmCode()
	vmIs(t, "none", c, impl.Vm{}, false)
	vmIs(t, "none, empty lists", c, impl.Vm{Frames: []impl.Frame{}, Stack: []impl.Term{}}, false)
	vmIs(t, "none, with a term", c, impl.Vm{Stack: []impl.Term{intTerm(1)}}, false)
	vmIs(t, "the zero one", c, impl.Vm{Frames: []impl.Frame{{}}}, false)
	vmIs(t, "the zero one of a Fn without slots", impl.Code{Fns: []impl.Fn{fnOf("f", 0, 0, "fail")}}, impl.Vm{Frames: []impl.Frame{{}}}, true)
	for _, many := range []int{0, 1, 2, 3, 39, 40, 41, 42, 80, 1000} {
		deep, v := deepVm(many)
		vmIs(t, strconv.Itoa(many)+" Frames", deep, v, many >= 1 && many <= 40)
	}
	for _, f := range []int{math.MinInt, -3, -2, -1, 0, 1, 2, 3, 4, 12, math.MaxInt} {
		for slots := range 5 {
			v := impl.Vm{Frames: []impl.Frame{{F: f, Slots: timesTerm(slots, intTerm(1))}}}
			vmIs(t, fmt.Sprint("F ", f, ", ", slots, " slots"), c, v, f >= 0 && f <= 2 && slots == []int{3, 1, 2}[f])
		}
		v := vmFrom(t, "0 2 1, 2, 3; 1 0 4 |")
		v.Frames[1].F = f
		vmIs(t, fmt.Sprint("F ", f, " of the last"), c, v, f == 1)
		v = vmFrom(t, "0 2 1, 2, 3; 1 0 4 |")
		v.Frames[0].F = f
		vmIs(t, fmt.Sprint("F ", f, " of the first"), c, v, f == 0)
	}
	for fn, f := range c.Fns {
		heights := vmHeights(f.Ins)
		for _, pc := range append([]int{math.MinInt, -2, -1, len(f.Ins), len(f.Ins) + 1, math.MaxInt}, rangeTo(len(f.Ins))...) {
			for high := range 6 {
				v := impl.Vm{Frames: []impl.Frame{{F: fn, Pc: pc, Slots: make([]impl.Term, f.Slots)}}, Stack: timesTerm(high, intTerm(1))}
				within := pc >= 0 && pc < len(f.Ins)
				vmIs(t, fmt.Sprint("Pc ", pc, ", so high: ", high), c, v, within && heights[pc] == high)
			}
		}
	}
}

func rangeTo(n int) []int {
	var l []int
	for i := range n {
		l = append(l, i)
	}
	return l
}

func TestVmOkSlots(t *testing.T) {
	c := vmCode()
	for slots := range 6 {
		for _, x := range []impl.Term{{}, intTerm(1), listTerm()} {
			vmIs(t, "one Frame", c, impl.Vm{Frames: []impl.Frame{{Slots: timesTerm(slots, x)}}}, slots == 3)
			v := vmFrom(t, "0 2 1, 2, 3; 1 3 4; 2 0 5, 6 |")
			for i := range v.Frames {
				other := plainCopyVm(v)
				other.Frames[i].Slots = timesTerm(slots, x)
				vmIs(t, fmt.Sprint("Frame ", i), c, other, slots == []int{3, 1, 2}[i])
			}
		}
	}
	for _, slots := range []int{0, 1, 399, 400, 401, 402} {
		for _, x := range []impl.Term{{}, countedTerm(300)} {
			full := impl.Code{Fns: []impl.Fn{fnOf("f", 0, 400, "fail")}}
			vmIs(t, "most slots", full, impl.Vm{Frames: []impl.Frame{{Slots: timesTerm(slots, x)}}}, slots == 400)
		}
	}
	at := func(x impl.Term, want bool) {
		t.Helper()
		v := vmFrom(t, "0 2 1, 2, 3; 1 3 4; 2 0 5, 6 |")
		for i := range v.Frames {
			for k := range v.Frames[i].Slots {
				other := plainCopyVm(v)
				other.Frames[i].Slots[k] = x
				vmIs(t, fmt.Sprint("slot ", k, " of Frame ", i), c, other, want)
			}
		}
	}
	at(impl.Term{}, true)
	at(impl.Term{L: []impl.Term{}}, true)
	for _, x := range termForms {
		at(x.t, true)
	}
	for _, wrong := range wrongTerms() {
		if !alikeTerms(wrong, impl.Term{}) {
			at(wrong, false)
		}
		at(tupleTerm(wrong), false)
		at(listTerm(intTerm(1), wrong), false)
	}
	at(countedTerm(300), true)
	at(nestedTerm(impl.TList, 7, intTerm(1)), true)
}

// TestVmOkCalls: each Frame but the last stands just behind an InCall of the Fn of the next.
func TestVmOkCalls(t *testing.T) {
	c := vmCode()
	for _, x := range []struct {
		text string
		want bool
	}{
		{"0 2 1, 2, 3; 1 0 4 |", true}, {"0 2 1, 2, 3; 1 3 4; 2 0 5, 6 |", true}, {"0 2 1, 2, 3; 1 3 4; 2 2 5, 6 | 7, 8", true}, {"0 6 1, 2, 3; 2 1 5, 6 | 7, 8, 9", true}, {"1 3 1; 2 3 1, 2 | 3", true},
		{"0 1 1, 2, 3; 1 0 4 | 5", false}, {"0 1 1, 2, 3; 1 0 4 |", false}, {"0 0 1, 2, 3; 1 0 4 |", false}, {"0 0 1, 2, 3; 1 1 4 |", false}, {"0 0 1, 2, 3; 1 1 4 | 5", false}, {"0 0 1, 2, 3; 1 2 4 | 5", false}, {"0 3 1, 2, 3; 1 0 4 | 5", false}, {"0 3 1, 2, 3; 1 0 4 | 5, 6", false}, {"0 3 1, 2, 3; 1 0 4 |", false}, {"0 11 1, 2, 3; 1 0 4 |", false}, {"0 11 1, 2, 3; 1 0 4 | 1", false},
		{"0 2 1, 2, 3; 2 0 4, 5 |", false}, {"0 2 1, 2, 3; 0 0 1, 2, 3 |", false}, {"0 6 1, 2, 3; 1 0 4 | 7, 8", false}, {"0 6 1, 2, 3; 1 0 4 | 7, 8, 9", false}, {"1 3 1; 1 0 1 |", false}, {"1 3 1; 0 0 1, 2, 3 |", false}, {"2 3 1, 2; 2 0 1, 2 |", false}, {"2 3 1, 2; 2 0 1, 2 | 1", false},
		{"0 2 1, 2, 3; 1 0 4; 2 0 5, 6 |", false}, {"0 2 1, 2, 3; 1 2 4; 2 0 5, 6 |", false}, {"0 2 1, 2, 3; 1 2 4; 2 0 5, 6 | 1, 2", false}, {"0 3 1, 2, 3; 1 3 4; 2 0 5, 6 | 1", false}, {"1 3 4; 0 2 1, 2, 3; 2 0 5, 6 |", false},
		// A Frame that waits in the midst, of a call that has come back.
		{"0 2 1, 2, 3 | 4", true}, {"0 2 1, 2, 3 |", false}, {"0 2 1, 2, 3; 1 3 4 | 5", true}, {"0 2 1, 2, 3; 1 3 4 |", false}, {"0 6 1, 2, 3 | 1, 2, 3", true}, {"0 7 1, 2, 3 | 1", true},
	} {
		vmIs(t, "calls", c, vmFrom(t, x.text), x.want)
	}
	// Beside InCall an Ins may have the same S and N.
	same := impl.Code{Fns: []impl.Fn{fnOf("f", 0, 0, "atom f; call f 0; tuple 2; ret")}}
	vmIs(t, "behind an InAtom of this Name", same, vmFrom(t, "0 1; 0 0 |"), false)
	vmIs(t, "behind an InAtom of this Name", same, vmFrom(t, "0 1; 0 0 | 1"), false)
	vmIs(t, "behind an InCall", same, vmFrom(t, "0 2; 0 0 | 1"), true)
	// An InCall that is led to, with others behind it.
	led := impl.Code{Fns: []impl.Fn{fnOf("f", 0, 0, "int 1; jump 2; call g 1; call h 1; ret"), fnOf("g", 1, 1, "fail"), fnOf("h", 1, 1, "fail")}}
	for pc := range 5 {
		for fn := range 3 {
			for high := range 3 {
				v := impl.Vm{Frames: []impl.Frame{{Pc: pc}, {F: fn, Slots: timesTerm(led.Fns[fn].Slots, intTerm(1))}}, Stack: timesTerm(high, intTerm(1))}
				vmIs(t, "led to", led, v, pc == fn+2 && fn > 0 && high == 0)
			}
		}
	}
	// The last may stand anywhere.
	vmIs(t, "the last behind an InCall", c, vmFrom(t, "1 3 1; 2 0 1, 2 |"), true)
	vmIs(t, "the last, with nothing called", c, vmFrom(t, "1 3 1 | 5"), true)
}

func TestVmOkStack(t *testing.T) {
	c := vmCode()
	for _, text := range []string{"0 0 1, 2, 3 |", "0 5 1, 2, 3 | 1, 2, 3, 4", "0 11 1, 2, 3 | 1", "0 2 1, 2, 3; 1 2 4 | 1, 2", "0 6 1, 2, 3; 2 2 4, 5 | 1, 2, 3, 4", "0 2 1, 2, 3; 1 3 4; 2 2 5, 6 | 1, 2"} {
		v := vmFrom(t, text)
		vmIs(t, "as high as told", c, v, true)
		for high := range 8 {
			other := plainCopyVm(v)
			other.Stack = timesTerm(high, intTerm(1))
			vmIs(t, fmt.Sprint(high, " high"), c, other, high == len(v.Stack))
		}
		for i := range v.Stack {
			at := func(x impl.Term, want bool) {
				t.Helper()
				other := plainCopyVm(v)
				other.Stack[i] = x
				vmIs(t, fmt.Sprint("place ", i), c, other, want)
			}
			at(impl.Term{}, false)
			at(countedTerm(300), true)
			for _, wrong := range wrongTerms() {
				at(wrong, false)
				at(tupleTerm(wrong), false)
			}
			for _, x := range termForms {
				at(x.t, true)
			}
		}
	}
	for many := 1; many <= 40; many++ {
		deep, v := deepVm(many)
		for high := many - 2; high <= many+2; high++ {
			v.Stack = timesTerm(max(high, 0), intTerm(1))
			vmIs(t, fmt.Sprint(many, " Frames, ", high, " high"), deep, v, high == many)
		}
	}
	// As high as can be.
	high := impl.Code{Fns: []impl.Fn{fnOf("f", 0, 0, down(300)), {Name: "g", Ins: append(slices.Repeat(asm("int 1"), 299), asm("call g 0; fail")...)}}}
	for _, many := range []int{298, 299, 300, 301} {
		vmIs(t, fmt.Sprint(many, " high"), high, impl.Vm{Frames: []impl.Frame{{Pc: 300}}, Stack: timesTerm(many, intTerm(1))}, many == 300)
	}
	frames := append(slices.Repeat([]impl.Frame{{F: 1, Pc: 300}}, 39), impl.Frame{F: 1, Pc: 300})
	for _, over := range []int{-300, -1, 0, 1, 300} {
		v := impl.Vm{Frames: frames, Stack: timesTerm(40*299+1+over, intTerm(1))}
		vmIs(t, fmt.Sprint(over, " more than most"), high, v, over == 0)
	}
}

// TestVmStepForm: a machine that is not right comes back as it is.
func TestVmStepForm(t *testing.T) {
	c := vmCode()
	for _, text := range []string{"|", "| 1", "0 0 1, 2 |", "0 0 1, 2, 3, 4 |", "0 0 1, 2, 3 | 1", "0 1 1, 2, 3 |", "3 0 |", "0 12 1, 2, 3 |", "0 12 1, 2, 3 | 1", "0 2 1, 2, 3; 2 0 4, 5 |", "0 2 1, 2, 3; 1 0 4 | 9", "0 1 1, 2, 3 | nothing", "1 2 1 | 1, nothing", "0 99 1, 2, 3; 77 5 | 1, {a, [b]}, nothing"} {
		v := vmFrom(t, text)
		if next, x, code := steps(t, c, v); code != impl.EvForm || !alikeVms(next, v) || !alikeTerms(x, impl.Term{}) {
			t.Errorf("%s: %d", text, code)
		}
	}
	for _, wrong := range wrongTerms() {
		v := vmFrom(t, "0 1 1, 2, 3 | 4")
		v.Stack[0] = wrong
		if next, _, code := steps(t, c, v); code != impl.EvForm || !alikeVms(next, v) {
			t.Errorf("%+v on the Stack: %d", wrong, code)
		}
		v = vmFrom(t, "0 1 1, 2, 3 | 4")
		v.Frames[0].Slots[2] = wrong
		if next, _, code := steps(t, c, v); (code == impl.EvForm) == alikeTerms(wrong, impl.Term{}) || code == impl.EvForm && !alikeVms(next, v) {
			t.Errorf("%+v in a slot: %d", wrong, code)
		}
	}
	for _, many := range []int{41, 42, 1000} {
		deep, v := deepVm(many)
		if next, _, code := steps(t, deep, v); code != impl.EvForm || !alikeVms(next, v) {
			t.Errorf("%d Frames: %d", many, code)
		}
	}
}

// stepIs: what one step of a machine comes to: a text of the next one, of a term behind "=", or a fault's name.
func stepIs(t *testing.T, c impl.Code, text string, want string) {
	t.Helper()
	v := vmFrom(t, text)
	next, x, code := steps(t, c, v)
	got := vmText(next)
	if code == impl.EvGood {
		got = "= " + came(x, code)
	} else if code != impl.VmMore {
		got = came(x, code)
	}
	if got != want {
		t.Errorf("%s: %s, not %s", text, got, want)
	}
}

// insStep: likewise of one Ins, behind so many that put a term each; the Fn has two slots.
func insStep(t *testing.T, in string, slots string, stack string, want string) {
	t.Helper()
	high := len(slotsFrom(t, stack))
	l := append(slices.Repeat(asm("int 0"), high), append(asm(in), asm("fail")...)...)
	c := impl.Code{Fns: []impl.Fn{{Name: "f", Slots: 2, Ins: l}}}
	if want != "ARITH" && want != "BIG" && want != "FORM" {
		want = fmt.Sprintf("0 %d %s | %s", high+1, slots, want)
	}
	stepIs(t, c, fmt.Sprintf("0 %d %s | %s", high, slots, stack), want)
}

func TestVmStepPuts(t *testing.T) {
	for _, x := range []struct{ in, slots, stack, want string }{
		{"int 0", "1, 2", "", "0"}, {"int 7", "1, 2", "5, {}", "5, {}, 7"}, {"int 1000000000000", "nothing, nothing", "", "1000000000000"},
		{"atom a", "1, 2", "", "a"}, {"atom " + twentySmall, "nothing, 2", "1", "1, " + twentySmall},
		{"load 0", "7, nothing", "", "7"}, {"load 1", "7, {a,[1]}", "1, 2", "1, 2, {a,[1]}"}, {"load 0", "[], 1", "", "[]"}, {"load 1", "nothing, <3>", "", "<3>"},
		{"load 0", "nothing, 7", "", "FORM"}, {"load 1", "7, nothing", "1, 2", "FORM"}, {"load 1", "nothing, nothing", "", "FORM"},
		{"tuple 0", "1, 2", "", "{}"}, {"tuple 0", "1, 2", "7", "7, {}"}, {"tuple 1", "1, 2", "7", "{7}"}, {"tuple 2", "1, 2", "5, 6, 7", "5, {6,7}"}, {"tuple 3", "1, 2", "{}, [a], b", "{{},[a],b}"},
		{"list 0", "1, 2", "", "[]"}, {"list 0", "1, 2", "7", "7, []"}, {"list 1", "1, 2", "[7]", "[[7]]"}, {"list 2", "1, 2", "5, 6, 7", "5, [6,7]"}, {"list 3", "1, 2", "{}, [a], b", "[{},[a],b]"},
		{"cons 2", "1, 2", "1, []", "[1]"}, {"cons 2", "1, 2", "9, 1, [2, 3]", "9, [1,2,3]"}, {"cons 3", "1, 2", "1, 2, [3]", "[1,2,3]"}, {"cons 6", "1, 2", "1, 2, 3, 4, 5, []", "[1,2,3,4,5]"}, {"cons 2", "1, 2", "[1], [2]", "[[1],2]"},
		{"cons 2", "1, 2", "1, 2", "ARITH"}, {"cons 2", "1, 2", "[1], a", "ARITH"}, {"cons 2", "1, 2", "[1], {}", "ARITH"}, {"cons 3", "1, 2", "1, [2], {[3]}", "ARITH"}, {"cons 2", "1, 2", "1, pid(3)", "ARITH"},
		{"op +", "1, 2", "3, 4", "7"}, {"op -", "1, 2", "9, 3, 4", "9, -1"}, {"op *", "1, 2", "3, 4", "12"}, {"op ==", "1, 2", "3, 4", "false"}, {"op ==", "1, 2", "{3}, {3}", "true"}, {"op <", "1, 2", "3, 4", "true"}, {"op <", "1, 2", "4, 3", "false"}, {"op <", "1, 2", "a, [3]", "true"},
		{"op +", "1, 2", "a, 1", "ARITH"}, {"op +", "1, 2", "1, a", "ARITH"}, {"op -", "1, 2", "[], 1", "ARITH"}, {"op *", "1, 2", "1, {}", "ARITH"}, {"op *", "1, 2", "pid(1), 1", "ARITH"}, {"op +", "1, 2", "1000000000000, 1", "ARITH"}, {"op *", "1, 2", "4294967296, 4294967296", "ARITH"}, {"op +", "1, 2", "999999999999, 1", "1000000000000"}, {"op -", "1, 2", "0, 1000000000000", "-1000000000000"}, {"op -", "1, 2", "(0 - 1), 1000000000000", "ARITH"},
	} {
		insStep(t, x.in, x.slots, x.stack, x.want)
	}
	row := rowText(20)
	insStep(t, "tuple 20", "1, 2", row, "{"+strings.ReplaceAll(row, " ", "")+"}")
	insStep(t, "list 20", "1, 2", row, "["+strings.ReplaceAll(row, " ", "")+"]")
}

// rowText: so many numbers with ", " between.
func rowText(n int) string {
	var l []string
	for i := range n {
		l = append(l, strconv.Itoa(i))
	}
	return strings.Join(l, ", ")
}

// TestVmStepBig: what is just not too great, and what is by one, by its count, its depth and the count of a list.
func TestVmStepBig(t *testing.T) {
	put := func(in string, want int, stack ...impl.Term) {
		t.Helper()
		l := append(slices.Repeat(asm("int 0"), len(stack)), append(asm(in), asm("fail")...)...)
		c := impl.Code{Fns: []impl.Fn{{Name: "f", Ins: l}}}
		if _, _, code := steps(t, c, impl.Vm{Frames: []impl.Frame{{Pc: len(stack)}}, Stack: stack}); code != want {
			t.Errorf("%s of %d: %d, not %d", in, len(stack), code, want)
		}
	}
	fine := func(is bool) int {
		if is {
			return impl.VmMore
		}
		return impl.EvBig
	}
	for over := -2; over <= 2; over++ {
		put("tuple 2", fine(over <= 0), countedTerm(100), countedTerm(199+over))
		put("list 2", fine(over <= 0), countedTerm(100), countedTerm(199+over))
		put("tuple 1", fine(over <= 0), countedTerm(min(299+over, 300)))
		put("cons 2", fine(over <= 0), countedTerm(200), countedTerm(100+over))
		put("cons 3", fine(over <= 0), intTerm(1), countedTerm(200), countedTerm(99+over))
	}
	for deep := 1; deep <= 8; deep++ {
		x, list := nestedTerm(impl.TTuple, deep-1, intTerm(1)), nestedTerm(impl.TList, deep-1, listTerm())
		put("tuple 1", fine(deep <= 7), x)
		put("list 2", fine(deep <= 7), intTerm(1), list)
		put("cons 2", fine(deep <= 7), x, listTerm())
		put("cons 2", fine(true), intTerm(1), list)
		put("cons 2", fine(deep <= 7), list, list)
	}
	for many := 50; many <= 60; many++ {
		rest := listTerm(timesTerm(many, intTerm(1))...)
		put("cons 2", fine(many+1 <= 60), atomTerm("a"), rest)
		put("cons 6", fine(many+5 <= 60), atomTerm("a"), atomTerm("b"), atomTerm("c"), atomTerm("d"), atomTerm("e"), rest)
	}
	// Where the last of a list is none, that counts first.
	put("cons 2", impl.EvArith, countedTerm(300), tupleTerm())
	put("cons 3", impl.EvArith, nestedTerm(impl.TList, 7, listTerm()), countedTerm(300), intTerm(1))
}

// TestVmStepCall: what was on top are the first slots, the others are zero, and what lies below stays.
func TestVmStepCall(t *testing.T) {
	for args := range 5 {
		for _, slots := range []int{args, args + 1, 7} {
			for below := range 3 {
				stack := []impl.Term{}
				for i := range below + args {
					stack = append(stack, tupleTerm(intTerm(i)))
				}
				l := append(slices.Repeat(asm("int 0"), below+args), append(asm("call g "+strconv.Itoa(args)), asm("fail")...)...)
				c := impl.Code{Fns: []impl.Fn{fnOf("h", args, slots, "fail"), fnOf("g", args, slots, "fail"), {Name: "f", Slots: 1, Ins: l}}}
				v := impl.Vm{Frames: []impl.Frame{{F: 2, Pc: below + args, Slots: []impl.Term{atomTerm("own")}}}, Stack: stack}
				next, x, code := steps(t, c, v)
				want := impl.Vm{Frames: []impl.Frame{{F: 2, Pc: below + args + 1, Slots: []impl.Term{atomTerm("own")}}, {F: 1, Slots: append(slices.Clone(stack[below:]), make([]impl.Term, slots-args)...)}}, Stack: stack[:below]}
				if code != impl.VmMore || !alikeTerms(x, impl.Term{}) || !alikeVms(next, want) {
					t.Errorf("%d args, %d slots, %d below: %d, %s, not %s", args, slots, below, code, vmText(next), vmText(want))
				}
			}
		}
	}
	// As many Frames as there may be.
	for many := 1; many <= 40; many++ {
		c, v := deepVm(many)
		v.Frames[many-1].Pc = 2
		v.Stack = append(v.Stack, atomTerm("arg"))
		next, _, code := steps(t, c, v)
		if many < 40 && (code != impl.VmMore || len(next.Frames) != many+1 || len(next.Stack) != many) || many == 40 && (code != impl.EvDeep || !alikeVms(next, v)) {
			t.Errorf("%d Frames: %d, %s", many, code, vmText(next))
		}
	}
	// Without args it is likewise, and it may be of any Fn.
	c := impl.Code{Fns: []impl.Fn{fnOf("f", 0, 0, "call g 0; ret"), fnOf("g", 0, 1, "call f 0; ret")}}
	v := impl.Vm{}
	for i := range 40 {
		v.Frames = append(v.Frames, impl.Frame{F: i % 2, Pc: 1, Slots: make([]impl.Term, i%2)})
	}
	v.Frames[39].Pc = 0
	if _, _, code := steps(t, c, v); code != impl.EvDeep {
		t.Error("without args, 40 Frames:", code)
	}
	v.Frames = v.Frames[:39]
	v.Frames[38].Pc = 0
	if next, _, code := steps(t, c, v); code != impl.VmMore || len(next.Frames) != 40 || next.Frames[39].F != 1 {
		t.Error("without args, 39 Frames:", code)
	}
}

func TestVmStepMatch(t *testing.T) {
	match := func(p impl.Pat, top string, slots string, want string) {
		t.Helper()
		c := impl.Code{Fns: []impl.Fn{fnOf("f", 0, 3, "int 8; int 9; match 1 5; int 9; fail; fail")}, Pats: []impl.Pat{slotP(0), p}}
		to := "0 5 " + slots + " | 8, " + impl.TermText(termFrom(t, top))
		if want != "" {
			to = "0 3 " + want + " | 8"
		}
		stepIs(t, c, "0 2 "+slots+" | 8, "+top, to)
	}
	const s = "1, nothing, {a,[2]}"
	for _, x := range []struct {
		p         impl.Pat
		top, want string
	}{
		{intP(7), "7", s}, {intP(7), "8", ""}, {intP(0), "0", s}, {intP(7), "a", ""}, {intP(7), "pid(7)", ""}, {intP(7), "(0 - 7)", ""}, {intP(7), "{7}", ""}, {intP(0), "[]", ""}, {intP(0), "{}", ""}, {intP(0), "a", ""}, {intP(impl.MaxInt), "1000000000000", s},
		{atomP("a"), "a", s}, {atomP("a"), "b", ""}, {atomP("a"), "aa", ""}, {atomP("a"), "1", ""}, {atomP("a"), "{a}", ""}, {atomP("a"), "pid(0)", ""}, {atomP("aa"), "a", ""}, {atomP(twentySmall), twentySmall, s},
		{slotP(0), "7", "7, nothing, {a,[2]}"}, {slotP(1), "{7}", "1, {7}, {a,[2]}"}, {slotP(2), "[]", "1, nothing, []"}, {slotP(-1), "7", s}, {slotP(1), "pid(5)", "1, <5>, {a,[2]}"}, {slotP(1), "a", "1, a, {a,[2]}"},
		{tupleP(), "{}", s}, {tupleP(), "[]", ""}, {tupleP(), "{1}", ""}, {tupleP(slotP(0)), "{7}", "7, nothing, {a,[2]}"}, {tupleP(slotP(0)), "[7]", ""}, {tupleP(slotP(0)), "{}", ""}, {tupleP(slotP(0)), "{7, 8}", ""}, {tupleP(slotP(2), slotP(0)), "{7, 8}", "8, nothing, 7"}, {tupleP(slotP(2), slotP(-1), slotP(1)), "{7, 8, 9}", "1, 9, 7"}, {tupleP(slotP(0)), "7", ""}, {tupleP(slotP(0)), "a", ""},
		{listP(), "[]", s}, {listP(), "{}", ""}, {listP(), "[1]", ""}, {listP(slotP(0)), "[7]", "7, nothing, {a,[2]}"}, {listP(slotP(0)), "{7}", ""}, {listP(slotP(0)), "[]", ""}, {listP(slotP(0)), "[7, 8]", ""}, {listP(slotP(1), slotP(0)), "[7, 8]", "8, 7, {a,[2]}"}, {listP(slotP(0)), "7", ""},
		{consP(slotP(0), slotP(1)), "[7]", "7, [], {a,[2]}"}, {consP(slotP(0), slotP(1)), "[7, 8, 9]", "7, [8,9], {a,[2]}"}, {consP(slotP(0), slotP(1)), "[]", ""}, {consP(slotP(0), slotP(1)), "{7, 8}", ""}, {consP(slotP(0), slotP(1)), "7", ""}, {consP(slotP(2), slotP(1), slotP(0)), "[7, 8, 9]", "[9], 8, 7"}, {consP(slotP(2), slotP(1), slotP(0)), "[7, 8]", "[], 8, 7"}, {consP(slotP(2), slotP(1), slotP(0)), "[7]", ""}, {consP(slotP(0), listP()), "[7]", "7, nothing, {a,[2]}"}, {consP(slotP(0), listP()), "[7, 8]", ""}, {consP(slotP(0), listP(slotP(1))), "[7, 8]", "7, 8, {a,[2]}"}, {consP(slotP(0), consP(slotP(1), slotP(2))), "[7, 8, 9]", "7, 8, [9]"}, {consP(slotP(0), tupleP()), "[7]", ""}, {consP(slotP(0), intP(8)), "[7, 8]", ""}, {consP(slotP(-1), slotP(-1)), "[7]", s}, {consP(intP(7), slotP(0)), "[7, 8]", "[8], nothing, {a,[2]}"}, {consP(intP(7), slotP(0)), "[8, 7]", ""}, {consP(slotP(-1), slotP(-1), slotP(-1), slotP(-1), slotP(-1), slotP(0)), "[1, 2, 3, 4, 5, 6]", "[6], nothing, {a,[2]}"},
		// What matches in part alone binds nothing.
		{tupleP(slotP(0), intP(9)), "{7, 8}", ""}, {tupleP(slotP(0), slotP(1), slotP(2), intP(9)), "{7, 8, 9, 8}", ""}, {tupleP(slotP(0), tupleP(slotP(1), atomP("b"))), "{7, {8, a}}", ""}, {consP(slotP(0), slotP(1), listP()), "[7, 8, 9]", ""}, {listP(tupleP(slotP(2)), tupleP(slotP(1), slotP(0))), "[{7}, {8}]", ""},
		{tupleP(slotP(0), tupleP(slotP(1), atomP("a"))), "{7, {8, a}}", "7, 8, {a,[2]}"}, {tupleP(slotP(0), tupleP(slotP(1), listP(slotP(2), intP(3)))), "{7, {[8], [9, 3]}}", "7, [8], 9"},
	} {
		match(x.p, x.top, s, x.want)
	}
	// Slots that have something are bound anew.
	match(tupleP(slotP(2), slotP(1), slotP(0)), "{7, 8, 9}", "1, 2, 3", "9, 8, 7")
	match(slotP(0), "{1}", "1, 2, 3", "{1}, 2, 3")
}

// TestVmStepMatchLimits: as many slots, and as deep, as a pattern may have.
func TestVmStepMatchLimits(t *testing.T) {
	p := manySlots(280)
	x := tupleTerm()
	for from := 0; from < 280; from += 20 {
		row := tupleTerm()
		for slot := from; slot < from+20; slot++ {
			row.L = append(row.L, intTerm(slot))
		}
		x.L = append(x.L, row)
	}
	c := impl.Code{Fns: []impl.Fn{fnOf("f", 1, 400, "load 0; match 0 3; fail; ret")}, Pats: []impl.Pat{p}}
	v := impl.Vm{Frames: []impl.Frame{{Pc: 1, Slots: timesTerm(400, atomTerm("old"))}}, Stack: []impl.Term{x}}
	next, _, code := steps(t, c, v)
	if code != impl.VmMore || next.Frames[0].Pc != 2 || len(next.Stack) != 0 {
		t.Fatal(code, vmText(next))
	}
	for slot, y := range next.Frames[0].Slots {
		if slot < 280 && !alikeTerms(y, intTerm(slot)) || slot >= 280 && !alikeTerms(y, atomTerm("old")) {
			t.Errorf("slot %d: %+v", slot, y)
		}
	}
	// The very last part does not match.
	x.L[13].L[19] = tupleTerm()
	p.E[13].E[19] = tupleP(tupleP())
	if next, _, code = steps(t, c, v); code != impl.VmMore || next.Frames[0].Pc != 3 || !alikeTerms(next.Stack[0], x) || !alikeTerms(next.Frames[0].Slots[0], atomTerm("old")) {
		t.Error(code, vmText(next))
	}
	for deep := 1; deep <= 10; deep++ {
		for _, k := range []int{impl.XTuple, impl.XList} {
			c := impl.Code{Fns: []impl.Fn{fnOf("f", 0, 1, "int 1; match 0 3; fail; ret")}, Pats: []impl.Pat{nestedP(k, deep-1, slotP(0))}}
			for inner := range 8 {
				x := nestedTerm(k, inner, intTerm(7))
				next, _, code := steps(t, c, impl.Vm{Frames: []impl.Frame{{Pc: 1, Slots: make([]impl.Term, 1)}}, Stack: []impl.Term{x}})
				if is := inner >= deep-1; code != impl.VmMore || (next.Frames[0].Pc == 2) != is || (len(next.Stack) == 0) != is {
					t.Errorf("a pattern %d deep, a term %d deep: %d, %s", deep, inner+1, code, vmText(next))
				}
			}
		}
	}
}

func TestVmStepFlow(t *testing.T) {
	c := vmCode()
	stepIs(t, c, "0 9 1, 2, 3 | 7", "0 11 1, 2, 3 | 7")
	stepIs(t, c, "0 10 1, 2, 3 | 7", "MATCH")
	stepIs(t, c, "0 10 nothing, nothing, nothing | {a}", "MATCH")
	stepIs(t, c, "0 11 1, 2, 3 | {7, [a]}", "= {7,[a]}")
	stepIs(t, c, "2 3 1, 2 | 7", "= 7")
	stepIs(t, c, "1 3 1; 2 3 1, 2 | 7", "1 3 1 | 7")
	stepIs(t, c, "0 2 1, 2, nothing; 1 3 4 | [5]", "0 2 1, 2, nothing | [5]")
	stepIs(t, c, "0 6 1, 2, 3; 2 3 4, 5 | 7, 8, 9", "0 6 1, 2, 3 | 7, 8, 9")
	stepIs(t, c, "0 2 1, 2, 3; 1 3 4; 2 3 5, 6 | 7", "0 2 1, 2, 3; 1 3 4 | 7")
	// A jump over others, and one to the next.
	over := impl.Code{Fns: []impl.Fn{fnOf("f", 0, 0, "int 1; match 0 4; int 2; jump 6; jump 5; fail; ret")}, Pats: []impl.Pat{intP(1)}}
	stepIs(t, over, "0 3 | 2", "0 6 | 2")
	stepIs(t, over, "0 4 | 1", "0 5 | 1")
	stepIs(t, over, "0 1 | 1", "0 2 |")
	stepIs(t, over, "0 1 | 2", "0 4 | 2")
	// A fault in a Frame within leaves all that are around it.
	stepIs(t, c, "0 2 1, 2, 3; 1 3 4; 2 2 5, 6 | 7, a", "ARITH")
	stepIs(t, c, "0 6 1, 2, 3; 2 1 4, nothing | 7, 8, 9", "FORM")
}

// TestVmStepDepth: what 40 Frames return one after another.
func TestVmStepDepth(t *testing.T) {
	c, v := deepVm(40)
	v.Frames[39].Pc = 4
	v.Stack[39] = atomTerm("end")
	for many := 40; many > 1; many-- {
		next, _, code := steps(t, c, v)
		if code != impl.VmMore || len(next.Frames) != many-1 || len(next.Stack) != many || next.Frames[many-2].Pc != 3 {
			t.Fatalf("%d Frames: %d, %s", many, code, vmText(next))
		}
		// What is put around each would be too deep for 40; so it is handed on as it is.
		next.Frames[many-2].Pc = 4
		next.Stack = append(next.Stack[:many-2], next.Stack[many-1])
		v = next
	}
	if _, x, code := steps(t, c, v); code != impl.EvGood || x.S != "end" {
		t.Error(code, x)
	}
}

func TestVmRunSteps(t *testing.T) {
	for _, x := range []struct {
		text, args string
		steps      int
		want       string
	}{
		{"f() -> 1.", "", 2, "1"}, {"f(X) -> X.", "{a}", 2, "{a}"}, {"f() -> {}.", "", 2, "{}"}, {"f() -> {1, 2}.", "", 4, "{1,2}"}, {"f() -> [1 | [2]].", "", 5, "[1,2]"}, {"f() -> (1 + 2).", "", 4, "3"}, {"f() -> g(). g() -> 1.", "", 4, "1"}, {"f(X) -> g(X, 1). g(A, B) -> {A, B}.", "7", 8, "{7,1}"},
		{"f(X) -> case X of 1 -> a; _ -> b end.", "1", 5, "a"}, {"f(X) -> case X of 1 -> a; _ -> b end.", "2", 6, "b"}, {"f(X) -> case X of 1 -> a; 2 -> b end.", "3", 4, "MATCH"}, {"f(X) -> case X of 1 -> a end.", "3", 3, "MATCH"},
		{"f() -> (a + 1).", "", 3, "ARITH"}, {"f() -> [1 | 2].", "", 3, "ARITH"}, {"f(X) -> {{{{{{{{X}}}}}}}}.", "1", 9, "BIG"}, {"f() -> f().", "", 40, "DEEP"}, {"f(X) -> f(X).", "1", 80, "DEEP"},
		{"f(L) -> case L of [] -> 0; [H | T] -> (H + f(T)) end.", "[3, 4]", 23, "7"},
	} {
		c, _ := impl.Compile(moduleOf(t, x.text))
		y, code, count := runs(t, c, "f", termFrom(t, "["+x.args+"]").L, 1000)
		if got := came(y, code); got != x.want || count != x.steps {
			t.Errorf("%q of %s: %s by %d, not %s by %d", x.text, x.args, got, count, x.want, x.steps)
		}
	}
	// Each takes twice what the one below it takes, and 15 more.
	c, _ := impl.Compile(moduleOf(t, "g(N) -> case N of 0 -> 1; _ -> case g((N - 1)) of X -> g((N - 1)) end end."))
	cost := 5
	for n := range 20 {
		got := came(impl.VmRun(c, "g", []impl.Term{intTerm(n)}, min(cost, 100000)))
		less := came(impl.VmRun(c, "g", []impl.Term{intTerm(n)}, min(cost-1, 100000)))
		if cost <= 100000 && (got != "1" || less != "FUEL") || cost > 100000 && (got != "FUEL" || less != "FUEL") {
			t.Errorf("g of %d by %d: %s, %s", n, cost, got, less)
		}
		cost = 15 + 2*cost
	}
}

// jumps: so many Ins, each of which leads to the next, where the first stands at this place.
func jumps(from int, many int) []impl.Ins {
	var l []impl.Ins
	for i := range many {
		l = append(l, impl.Ins{Op: impl.InJump, To: from + i + 1})
	}
	return l
}

// longCode: f takes just so many steps (99071 to 100499), and comes to 66 numbers in 4 tuples.
func longCode(steps int) impl.Code {
	pad := steps - 66*1501 - 5
	l := append(jumps(0, pad), slices.Repeat(asm("call g 0"), 66)...)
	l = append(l, asm("tuple 20; tuple 20; tuple 20; tuple 9; ret")...)
	return impl.Code{Fns: []impl.Fn{{Name: "f", Ins: l}, {Name: "g", Ins: append(jumps(0, 1498), asm("int 1; ret")...)}}}
}

func TestVmRunMostSteps(t *testing.T) {
	for _, need := range []int{99071, 99999, 100000, 100001, 100002} {
		c := longCode(need)
		if !plainCodeOk(c) {
			t.Fatal("not right:", need)
		}
		for _, given := range []int{math.MinInt, -100000, -2, -1, 0, 1, 2, 99070, 99071, 99998, 99999, 100000, 100001, 100002, 1 << 32, math.MaxInt} {
			want := impl.EvGood
			if need > given {
				want = impl.EvFuel
			}
			if given < 0 || given > 100000 {
				want = impl.EvForm
			}
			x, code := impl.VmRun(c, "f", nil, given)
			if code != want || (code == impl.EvGood) != (impl.CountOf(x) == 66+4) {
				t.Errorf("%d steps of %d: %d, not %d", given, need, code, want)
			}
		}
	}
	// What has no machine has none with any steps.
	for _, given := range []int{-1, 0, 1, 100000, 100001} {
		for _, args := range [][]impl.Term{{intTerm(1)}, {{}}} {
			runsWithin(t, longCode(99071), "f", args, given, impl.Term{}, impl.EvForm)
		}
		runsWithin(t, longCode(99071), "h", nil, given, impl.Term{}, impl.EvForm)
		runsWithin(t, impl.Code{}, "f", nil, given, impl.Term{}, impl.EvForm)
	}
}

// TestVmRunFaults: a fault counts where it is come to with as many steps, and not with one less; also those of code that nothing was compiled to.
func TestVmRunFaults(t *testing.T) {
	for _, x := range []struct {
		text  string
		steps int
		want  string
	}{
		{"load 0; ret", 1, "FORM"}, {"int 1; load 1; tuple 2; ret", 2, "FORM"}, {"int 1; match 0 3; load 1; fail", 3, "FORM"}, {"int 1; match 0 3; load 0; ret", 4, "1"}, {"int 1; match 1 3; fail; load 1; fail", 3, "FORM"}, {"int 2; match 1 3; fail; load 1; fail", 3, "MATCH"},
		{"int 1; int 2; cons 2; ret", 3, "ARITH"}, {"atom a; int 2; op +; ret", 3, "ARITH"}, {"fail", 1, "MATCH"}, {"int 1; match 0 3; fail; fail", 3, "MATCH"}, {"call f 0; ret", 40, "DEEP"}, {"list 0; call f 0; cons 2; ret", 80, "DEEP"},
	} {
		c := impl.Code{Fns: []impl.Fn{fnOf("f", 0, 2, x.text)}, Pats: []impl.Pat{slotP(0), intP(2)}}
		codeIs(t, x.text, c, true)
		y, code, count := runs(t, c, "f", nil, 100)
		if got := came(y, code); got != x.want || count != x.steps {
			t.Errorf("%s: %s by %d, not %s by %d", x.text, got, count, x.want, x.steps)
		}
	}
}

// TestVmRunByText: the whole way from a text, step by step.
func TestVmRunByText(t *testing.T) {
	for _, x := range []struct{ text, args, want string }{
		{"f(X) -> case X of {A, _} -> (A + 1); [H | T] -> g(H, T) end. g(X, Y) -> {ok, [X | Y]}.", "{1, 2}", "2"},
		{"f(X) -> case X of {A, _} -> (A + 1); [H | T] -> g(H, T) end. g(X, Y) -> {ok, [X | Y]}.", "[1, 2]", "{ok,[1,2]}"},
		{"f(X) -> case X of {A, _} -> (A + 1); [H | T] -> g(H, T) end. g(X, Y) -> {ok, [X | Y]}.", "7", "MATCH"},
		{"f(X) -> case 2 of X -> case X of X -> (X * 10) end end.", "7", "20"},
		{"f(X) -> {case 2 of X -> X end, X}.", "1", "{2,1}"},
		{"f(X, A) -> case X of {A, 9} -> A; {_, B} -> {A, B} end.", "{1, 2}, 7", "{7,2}"},
		{"f(X, A) -> case X of [A, B | 1] -> A; [B | A] -> {A, B} end.", "[1, 2, 3], 7", "{[2,3],1}"},
		{"f(N) -> case N of 0 -> []; _ -> [N | f((N - 1))] end.", "20", "[20,19,18,17,16,15,14,13,12,11,10,9,8,7,6,5,4,3,2,1]"},
		{"f(A, B) -> {g(B), A, B}. g(A) -> case {A, A} of {A, B} -> {A, B, z} end.", "1, 2", "{{2,2,z},1,2}"},
		{"f(A, B, C, D) -> g(D, C, B, A). g(A, B, C, D) -> {A, B, C, D}.", "1, 2, 3, 4", "{4,3,2,1}"},
	} {
		m := moduleOf(t, x.text)
		c, _ := impl.Compile(m)
		args := termFrom(t, "["+x.args+"]").L
		y, code, _ := runs(t, c, "f", args, 1000)
		if got := came(y, code); got != x.want || got != came(impl.Eval(m, "f", args, 1000)) {
			t.Errorf("%q of %s: %s, not %s", x.text, x.args, got, x.want)
		}
	}
}

// TestVmCallsWithinCalls: up to MaxCalls, and one more.
func TestVmCallsWithinCalls(t *testing.T) {
	m := moduleOf(t, "f(N) -> case N of 0 -> 0; _ -> (1 + f((N - 1))) end. g(N) -> {f(N), f(N)}. h() -> h(). k(N) -> case N of 0 -> true; _ -> l((N - 1)) end. l(N) -> case N of 0 -> false; _ -> k((N - 1)) end.")
	c, _ := impl.Compile(m)
	for n := range 45 {
		args := []impl.Term{intTerm(n)}
		for name, most := range map[string]int{"f": 39, "g": 38, "k": 39, "l": 39} {
			x, code := impl.VmRun(c, name, args, 3000)
			if want := came(impl.Eval(m, name, args, 100000)); came(x, code) != want || (want == "DEEP") != (n > most) {
				t.Errorf("%s of %d: %s, evaluated %s", name, n, came(x, code), want)
			}
		}
	}
	for _, n := range []int{38, 39, 40} {
		runs(t, c, "k", []impl.Term{intTerm(n)}, 3000)
	}
	if x, code, count := runs(t, c, "h", nil, 3000); came(x, code) != "DEEP" || count != 40 {
		t.Error("h:", came(x, code), count)
	}
}

// spoilVm changes one thing, often to what is wrong.
func spoilVm(r *rand.Rand, v *impl.Vm) {
	i := r.Intn(len(v.Frames))
	f := &v.Frames[i]
	some := []impl.Term{{}, intTerm(1), listTerm(), {K: 6}, intTerm(impl.MaxInt + 1), {N: 1}, randomTerm(r, 3)}[r.Intn(7)]
	switch r.Intn(11) {
	case 0:
		f.F += r.Intn(3) - 1
	case 1:
		f.Pc += r.Intn(5) - 2
	case 2:
		f.Slots = append(f.Slots, some)
	case 3:
		f.Slots = f.Slots[:r.Intn(len(f.Slots)+1)]
	case 4, 5:
		if len(f.Slots) > 0 {
			f.Slots[r.Intn(len(f.Slots))] = some
		}
	case 6:
		v.Stack = append(v.Stack, some)
	case 7:
		v.Stack = v.Stack[:r.Intn(len(v.Stack)+1)]
	case 8:
		if len(v.Stack) > 0 {
			v.Stack[r.Intn(len(v.Stack))] = some
		}
	case 9:
		v.Frames = slices.Delete(v.Frames, i, i+1)
	case 10:
		v.Frames = slices.Insert(v.Frames, i, plainCopyVm(*v).Frames[i])
	}
}

// TestVmByAnotherWitness: what is compiled does as it is evaluated, step by step, and so does code that nothing was compiled to.
func TestVmByAnotherWitness(t *testing.T) {
	w := &lively{r: rand.New(rand.NewSource(101))}
	var seen [7]int
	var right, wrong, other int
	for range 450 {
		m := w.module()
		if !plainRight(m) {
			continue
		}
		c, _ := impl.Compile(m)
		f := m.Funs[w.r.Intn(len(m.Funs))]
		var args []impl.Term
		for range f.Params {
			args = append(args, w.arg())
		}
		x, code, count := runs(t, c, f.Name, args, 60)
		if y, evaluated := impl.Eval(m, f.Name, args, 5000); evaluated != impl.EvFuel && count >= 0 && (evaluated != code || !alikeTerms(x, y)) {
			t.Fatalf("%s of %+v in %q: %s, evaluated %s", f.Name, args, plainModuleText(m), came(x, code), came(y, evaluated))
		}
		seen[code]++
		if v, _ := impl.VmNew(c, f.Name, args); count > 1 {
			for range w.r.Intn(count) {
				v, _, _ = impl.VmStep(c, v)
			}
			for range 4 {
				spoilt := plainCopyVm(v)
				spoilVm(w.r, &spoilt)
				is := plainVmOk(c, spoilt)
				vmIs(t, "spoilt", c, spoilt, is)
				steps(t, c, spoilt)
				if is {
					right++
				} else {
					wrong++
				}
			}
		}
		for range 4 {
			spoilt := plainCopyCode(c)
			spoilCode(w.r, &spoilt)
			if plainCodeOk(spoilt) {
				c = spoilt
				other++
			}
		}
		runs(t, c, f.Name, args, 60)
	}
	for code, many := range seen {
		if many < 3 && code != impl.EvForm {
			t.Error("too few to tell anything:", seen)
		}
	}
	if right < 100 || wrong < 400 || other < 200 {
		t.Error("too few to tell anything:", right, wrong, other)
	}
}

// TestVmAsEvaluated: over very many modules and arguments, fault by fault.
func TestVmAsEvaluated(t *testing.T) {
	w := &lively{r: rand.New(rand.NewSource(102))}
	var seen [7]int
	for i := range 20000 {
		m := w.module()
		if i%4 == 0 {
			m = checkedModule(w.r)
		}
		c, ok := impl.Compile(m)
		if !ok {
			continue
		}
		for _, f := range m.Funs {
			var args []impl.Term
			for range f.Params {
				args = append(args, w.arg())
			}
			// An expression takes no more Ins than its own, two for each clause, and one to come back.
			x, code := impl.Eval(m, f.Name, args, 7000)
			y, ran := impl.VmRun(c, f.Name, args, 14*7000)
			seen[code]++
			if code != impl.EvFuel && (ran != code || !alikeTerms(x, y)) {
				t.Fatalf("%s of %+v in %q: %s, evaluated %s", f.Name, args, plainModuleText(m), came(y, ran), came(x, code))
			}
			if _, ran := impl.VmRun(c, f.Name, append(args, intTerm(1)), 100); ran != impl.EvForm {
				t.Fatalf("%s of one more in %q: %d", f.Name, plainModuleText(m), ran)
			}
		}
	}
	for code, many := range seen {
		if many < 100 && code != impl.EvForm && code != impl.EvFuel {
			t.Error("too few to tell anything:", seen)
		}
	}
}

// TestVmLeavesArgumentsAlone: and what stands behind a list's length is neither read nor written.
func TestVmLeavesArgumentsAlone(t *testing.T) {
	build := func() (impl.Code, []impl.Frame, [][]impl.Term, []impl.Term) {
		c := vmCode()
		c.Fns = append(c.Fns, fnOf("f", 0, 0, "ret"), impl.Fn{})[:3]
		c.Pats = append(c.Pats, impl.Pat{K: 99})[:1]
		room := []impl.Term{intTerm(77), {K: 99}, {}}
		slots := [][]impl.Term{append([]impl.Term{intTerm(1), intTerm(2), intTerm(3)}, room...), append([]impl.Term{intTerm(4)}, room...), append([]impl.Term{intTerm(5), intTerm(6)}, room...)}
		frames := []impl.Frame{{F: 0, Pc: 2, Slots: slots[0][:3]}, {F: 1, Pc: 3, Slots: slots[1][:1]}, {F: 2, Pc: 0, Slots: slots[2][:2]}, {F: 9}, {F: -1, Slots: room}}
		stack := []impl.Term{intTerm(7), {K: impl.TList, L: append([]impl.Term{intTerm(8), atomTerm("z")}, room...)[:2]}, tupleTerm(intTerm(1), intTerm(2), intTerm(3)), atomTerm("a"), intTerm(9), {K: 99}, {}}
		return c, frames, slots, stack
	}
	wantCode, wantFrames, wantSlots, wantStack := build()
	for many := 1; many <= 3; many++ {
		last := wantFrames[many-1].F
		for pc := range wantCode.Fns[last].Ins {
			c, frames, slots, stack := build()
			frames[many-1].Pc = pc
			v := impl.Vm{Frames: frames[:many], Stack: stack[:vmHeights(c.Fns[last].Ins)[pc]]}
			vmIs(t, "with room behind", c, v, true)
			steps(t, c, v)
			frames[many-1].Pc = wantFrames[many-1].Pc
			if !slices.EqualFunc(frames, wantFrames, alikeFrames) || !slices.EqualFunc(stack, wantStack, alikeTerms) || !alikeTerms(listTerm(stack[1].L[:5]...), listTerm(wantStack[1].L[:5]...)) {
				t.Fatalf("Frame %d, Pc %d: a step wrote behind its argument", many-1, pc)
			}
			for i := range slots {
				if !slices.EqualFunc(slots[i], wantSlots[i], alikeTerms) {
					t.Fatalf("Frame %d, Pc %d: a step wrote behind slots", many-1, pc)
				}
			}
			if fns := c.Fns[:5]; !slices.EqualFunc(fns, wantCode.Fns[:5], sameFn) || !samePat(c.Pats[:2][1], impl.Pat{K: 99}) {
				t.Fatal("a step wrote behind the code")
			}
		}
	}
	// Frames, slots and terms behind a length are none.
	c, frames, slots, stack := build()
	vmIs(t, "a Frame more", c, impl.Vm{Frames: frames[:4]}, false)
	vmIs(t, "a term more", c, impl.Vm{Frames: frames[:3], Stack: stack[:1]}, false)
	frames[2].Slots = slots[2][:3]
	vmIs(t, "a slot more", c, impl.Vm{Frames: frames[:3]}, false)
	args := []impl.Term{intTerm(1), intTerm(2), intTerm(77), {K: 99}}
	if v, ok := news(t, c, "h", args[:2]); !ok || vmText(v) != "2 0 1, 2 |" {
		t.Error(ok, vmText(v))
	}
	runsWithin(t, c, "h", args[:2], 4, intTerm(3), impl.EvGood)
	for _, many := range []int{0, 1, 3} {
		runsWithin(t, c, "h", args[:many], 4, impl.Term{}, impl.EvForm)
	}
	if !slices.EqualFunc(args, []impl.Term{intTerm(1), intTerm(2), intTerm(77), {K: 99}}, alikeTerms) {
		t.Error("args were written into, or behind them")
	}
}

// TestVmSharesNoMemory: lists that are one in an argument are apart in the answer, and its texts are its own.
func TestVmSharesNoMemory(t *testing.T) {
	shared := listTerm(intTerm(3), listTerm(atomTerm("a")), tupleTerm(listTerm(atomTerm("b"))))
	c := vmCode()
	news(t, c, "h", []impl.Term{shared, shared})
	slots := []impl.Term{shared, tupleTerm(shared, shared), shared}
	for _, v := range []impl.Vm{
		{Frames: []impl.Frame{{Slots: slots}}}, {Frames: []impl.Frame{{Pc: 1, Slots: slots}}, Stack: slots[:1]}, {Frames: []impl.Frame{{Pc: 5, Slots: slots}}, Stack: []impl.Term{shared, shared, shared, shared}}, {Frames: []impl.Frame{{Pc: 6, Slots: slots}}, Stack: slots}, {Frames: []impl.Frame{{Pc: 7, Slots: slots}}, Stack: []impl.Term{tupleTerm(slots...)}}, {Frames: []impl.Frame{{Pc: 9, Slots: slots}}, Stack: slots[2:]}, {Frames: []impl.Frame{{Pc: 10, Slots: slots}}, Stack: slots[1:2]}, {Frames: []impl.Frame{{Pc: 11, Slots: slots}}, Stack: slots[1:2]},
		{Frames: []impl.Frame{{Pc: 2, Slots: slots}, {F: 1, Pc: 3, Slots: slots[1:2]}, {F: 2, Slots: slots[:2]}}}, {Frames: []impl.Frame{{Pc: 2, Slots: slots}, {F: 1, Pc: 3, Slots: slots[:1]}, {F: 2, Pc: 3, Slots: slots[1:3]}}, Stack: slots[:1]},
		// Not right, and shared likewise.
		{Frames: []impl.Frame{{Slots: slots}, {Slots: slots}, {F: 9, Slots: slots[1:]}}, Stack: slots}, {Frames: []impl.Frame{{Pc: 1, Slots: slots}}, Stack: []impl.Term{{K: 99, S: "text", L: slots}, {L: slots}}},
	} {
		next, _, _ := steps(t, c, v)
		// What is answered may be written into, up to its room, and nothing else changes.
		kept := plainCopyVm(next)
		for i := range next.Frames {
			for k := i + 1; k < len(next.Frames); k++ {
				if !alikeFrames(next.Frames[k], kept.Frames[k]) {
					t.Errorf("Frames %d and %d are not apart", i, k)
				}
			}
			spoilTerms(next.Frames[i].Slots[:cap(next.Frames[i].Slots)])
		}
		if !slices.EqualFunc(next.Stack, kept.Stack, alikeTerms) || !alikeTerms(shared, listTerm(intTerm(3), listTerm(atomTerm("a")), tupleTerm(listTerm(atomTerm("b"))))) {
			t.Error("slots and the Stack, or the argument, are not apart")
		}
	}
	// The rest of a list is apart from the list, and from another rest.
	m := moduleOf(t, "f(A) -> case A of [H | T] -> {T, T, A} end.")
	both, _ := impl.Compile(m)
	long := listTerm(timesTerm(6, tupleTerm(intTerm(1)))...)
	runs(t, both, "f", []impl.Term{long}, 100)
	// Texts over bytes that change.
	b := []byte("nameatomother")
	name, atom, other := unsafe.String(&b[0], 4), unsafe.String(&b[4], 4), unsafe.String(&b[8], 5)
	own := impl.Code{Fns: []impl.Fn{{Name: name, Args: 1, Slots: 2, Ins: []impl.Ins{{Op: impl.InAtom, S: atom}, {Op: impl.InLoad}, {Op: impl.InCall, S: other}, {Op: impl.InTuple, N: 3}, {Op: impl.InRet}}}, {Name: other, Ins: []impl.Ins{{Op: impl.InAtom, S: other}, {Op: impl.InRet}}}}}
	args := []impl.Term{listTerm(atomTerm(atom), atomTerm(other))}
	v, ok := impl.VmNew(own, name, args)
	first, _, firstCode := impl.VmStep(own, v)
	refused, _, _ := impl.VmStep(own, impl.Vm{Frames: []impl.Frame{{Slots: args}}})
	x, code := impl.VmRun(own, name, args, 100)
	if string(b) != "nameatomother" {
		t.Error("a text was written into")
	}
	overwrite(b)
	if got := vmText(v); !ok || got != "0 0 [atom,other], nothing |" {
		t.Error("VmNew:", got)
	}
	if got := vmText(first); firstCode != impl.VmMore || got != "0 1 [atom,other], nothing | atom" {
		t.Error("VmStep:", got)
	}
	if got := vmText(refused); got != "0 0 [atom,other] |" {
		t.Error("VmStep, refused:", got)
	}
	if got := came(x, code); got != "{atom,[atom,other],other}" {
		t.Error("VmRun:", got)
	}
}

// TestVmTextsApart: also of very many of them.
func TestVmTextsApart(t *testing.T) {
	const slots = 150
	text := strings.Clone(twentySmall)
	row := listTerm(timesTerm(5, listTerm(timesTerm(58, atomTerm(text))...))...)
	c := impl.Code{Fns: []impl.Fn{{Name: "f", Slots: slots, Ins: asm("call f 0; ret")}}}
	v := impl.Vm{Frames: slices.Repeat([]impl.Frame{{Pc: 1, Slots: timesTerm(slots, row)}}, 40)}
	v.Frames[39].Pc = 0
	next, _, code := impl.VmStep(c, v)
	if code != impl.EvDeep || len(next.Frames) != 40 {
		t.Fatal(code)
	}
	count := 0
	for _, f := range next.Frames {
		for _, x := range f.Slots {
			for _, inner := range x.L {
				for _, y := range inner.L {
					if unsafe.StringData(y.S) == unsafe.StringData(text) || y.S != text {
						t.Fatal("a text is shared, or wrong, behind", count)
					}
					count++
				}
			}
		}
	}
	if count != 40*slots*5*58 {
		t.Error(count)
	}
}

// TestVmEndsOnAnything: arguments that are very deep, share very often, or have no end.
func TestVmEndsOnAnything(t *testing.T) {
	const deep = 100000
	c := vmCode()
	endless := make([]impl.Term, 3)
	for i := range endless {
		endless[i] = impl.Term{K: impl.TList, L: endless}
	}
	for i, x := range []impl.Term{nestedTerm(impl.TTuple, deep, intTerm(1)), doubledTerm(14, intTerm(1)), doubledTerm(40, intTerm(1)), doubledTerm(3000, atomTerm("a")), roundTerm(1), roundTerm(1, 2, 3), listTerm(timesTerm(deep, roundTerm(5))...), endless[0], {S: strings.Repeat("a", 10*deep)}} {
		if _, ok := impl.VmNew(c, "f", []impl.Term{x}); ok {
			t.Error("term", i, "as an arg")
		}
		if y, code := impl.VmRun(c, "f", []impl.Term{x}, 100); came(y, code) != "FORM" {
			t.Error("term", i, "as an arg:", code)
		}
		for _, v := range []impl.Vm{{Frames: []impl.Frame{{Pc: 1, Slots: timesTerm(3, intTerm(1))}}, Stack: []impl.Term{x}}, {Frames: []impl.Frame{{Slots: []impl.Term{intTerm(1), x, x}}}}, {Frames: []impl.Frame{{F: 7, Slots: x.L}, {Slots: x.L}}, Stack: x.L}} {
			next, y, code := impl.VmStep(c, v)
			if impl.VmOk(c, v) || came(y, code) != "FORM" || len(next.Frames) != len(v.Frames) || len(next.Stack) != len(v.Stack) {
				t.Error("term", i, "in a machine:", code)
			}
			for k, f := range next.Frames {
				if f.F != v.Frames[k].F || f.Pc != v.Frames[k].Pc || !impl.SameTerm(listTerm(f.Slots...), listTerm(v.Frames[k].Slots...)) {
					t.Error("term", i, "in a machine: Frame", k, "is another")
				}
			}
			if !impl.SameTerm(listTerm(next.Stack...), listTerm(v.Stack...)) {
				t.Error("term", i, "in a machine: the Stack is another")
			}
		}
	}
	// Very many Frames of one list of very many slots.
	many := impl.Vm{Frames: slices.Repeat([]impl.Frame{{Slots: timesTerm(deep, intTerm(7))}}, deep)}
	next, _, code := impl.VmStep(c, many)
	if impl.VmOk(c, many) || code != impl.EvForm || len(next.Frames) != deep || len(next.Frames[deep-1].Slots) != deep || next.Frames[deep-1].Slots[deep-1].N != 7 || unsafe.SliceData(next.Frames[deep-1].Slots) == unsafe.SliceData(many.Frames[0].Slots) {
		t.Error("very many Frames:", code)
	}
	high := impl.Vm{Frames: []impl.Frame{{Slots: timesTerm(3, intTerm(1))}}, Stack: timesTerm(deep, intTerm(1))}
	if next, _, code := impl.VmStep(c, high); impl.VmOk(c, high) || code != impl.EvForm || len(next.Stack) != deep {
		t.Error("a very high Stack:", code)
	}
	if _, ok := impl.VmNew(c, strings.Repeat("f", 10*deep), nil); ok {
		t.Error("a very long name")
	}
	if _, ok := impl.VmNew(c, "f", timesTerm(deep, intTerm(1))); ok {
		t.Error("very many args")
	}
	ring := []impl.Pat{intP(1), {K: impl.XTuple}}
	ring[1].E = ring
	for i, wrong := range []impl.Code{{Fns: c.Fns, Pats: ring[1:]}, {Fns: c.Fns, Pats: make([]impl.Pat, deep)}, {Fns: make([]impl.Fn, deep)}, {Fns: []impl.Fn{{Name: "f", Args: 1, Slots: 3, Ins: make([]impl.Ins, 10*deep)}}}} {
		v := vmFrom(t, "0 0 1, 2, 3 |")
		_, ok := impl.VmNew(wrong, "f", []impl.Term{intTerm(1)})
		next, _, stepped := impl.VmStep(wrong, v)
		if _, code := impl.VmRun(wrong, "f", []impl.Term{intTerm(1)}, 100); ok || impl.VmOk(wrong, v) || stepped != impl.EvForm || code != impl.EvForm || !alikeVms(next, v) {
			t.Error("code", i)
		}
	}
}

// TestVmOfMostWork: what takes most for its steps.
func TestVmOfMostWork(t *testing.T) {
	names, table := namesAndTerm(10)
	m := moduleOf(t, "again(X, N) -> case N of 0 -> X; _ -> case once(X, (N - 1)) of Y -> once(Y, (N - 1)) end end. once(X, N) -> again(X, N). puts(X, N) -> case N of 0 -> X; _ -> case puts(X, (N - 1)) of [_ | T] -> [0 | case puts(T, (N - 1)) of Y -> Y end] end end. asks(X, N) -> case N of 0 -> (X == X); _ -> case {asks(X, (N - 1)), (X < X), ({X} == X)} of {Y, _, false} -> (Y == asks(X, (N - 1))) end end.")
	m.Funs[1].X = caseX(varX("X"), clauseX(tupleX(), intX(1)), clauseX(names, callX("again", varX("X"), varX("N"))))
	c, _ := impl.Compile(m)
	for _, x := range []struct {
		name string
		arg  impl.Term
		n    int
		code int
	}{
		{"again", table, 5, impl.EvGood}, {"again", table, 19, impl.EvFuel}, {"again", table, 20, impl.EvDeep}, {"puts", countedTerm(300), 5, impl.EvGood}, {"puts", countedTerm(300), 30, impl.EvFuel}, {"asks", countedTerm(299), 30, impl.EvFuel}, {"asks", countedTerm(299), 3, impl.EvGood},
	} {
		args := []impl.Term{x.arg, intTerm(x.n)}
		y, code := impl.VmRun(c, x.name, args, 100000)
		if z, evaluated := impl.Eval(m, x.name, args, 100000); code != x.code || evaluated != code || !alikeTerms(y, z) {
			t.Errorf("%s of %d: %d, evaluated %d", x.name, x.n, code, evaluated)
		}
	}
	// As many slots as there may be, and the greatest pattern, in each of very many calls.
	p := manySlots(280)
	p.E = append(p.E, timesP(5, slotP(-1))...)
	x := tupleTerm(append(timesTerm(14, tupleTerm(timesTerm(20, intTerm(1))...)), timesTerm(5, intTerm(1))...)...)
	rounds := func(name string, times int) impl.Fn {
		f := impl.Fn{Name: name, Args: 1, Slots: 400}
		end := 3*times + 2
		for range times {
			f.Ins = append(f.Ins, impl.Ins{Op: impl.InLoad}, impl.Ins{Op: impl.InCall, S: name + "g", N: 1}, impl.Ins{Op: impl.InMatch, N: 1, To: end})
		}
		f.Ins = append(f.Ins, asm("load 0; ret; fail")...)
		return f
	}
	great := impl.Code{Fns: []impl.Fn{rounds("f", 60), rounds("fg", 300), fnOf("fgg", 1, 400, "load 0; match 0 4; load 0; ret; fail")}, Pats: []impl.Pat{p, slotP(-1)}}
	if _, code := impl.VmRun(great, "f", []impl.Term{x}, 100000); code != impl.EvFuel {
		t.Error("very many calls:", code)
	}
	for _, less := range []int{0, 1} {
		y, code := impl.VmRun(great, "fg", []impl.Term{x}, 300*7+2-less)
		if less == 0 && (code != impl.EvGood || !alikeTerms(x, y)) || less == 1 && code != impl.EvFuel {
			t.Error("many calls:", code, y)
		}
	}
}
