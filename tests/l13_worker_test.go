package tests

import (
	"fmt"
	"math"
	"math/rand"
	"slices"
	"strconv"
	"strings"
	"testing"
	"unsafe"

	"loop.example/g00236/impl"
)

// echo: what a worker of it is told is what its handle comes to; its change comes to its State.
const echo = "handle(S, W) -> W. change(S) -> S."

func workerOf(mod string, no int, state impl.Term, box ...impl.Term) impl.Worker {
	return impl.Worker{Pid: 1, Name: "w", Mod: mod, No: no, State: state, Box: box}
}

// codeFor: what a module compiles to.
func codeFor(t *testing.T, text string) impl.Code {
	t.Helper()
	c, ok := impl.Compile(moduleOf(t, text))
	if !ok {
		t.Fatalf("%q does not compile", text)
	}
	return c
}

// tableFor: a module k of the number 1.
func tableFor(t *testing.T, text string) []impl.Entry {
	t.Helper()
	return []impl.Entry{entryOf("k", 1, codeFor(t, text))}
}

func alikeWorkers(a impl.Worker, b impl.Worker) bool {
	return a.Pid == b.Pid && a.Name == b.Name && a.Mod == b.Mod && a.No == b.No && alikeTerms(a.State, b.State) && slices.EqualFunc(a.Box, b.Box, alikeTerms)
}

func alikeSends(a []impl.Send, b []impl.Send) bool {
	return slices.EqualFunc(a, b, func(x impl.Send, y impl.Send) bool { return alikeTerms(x.To, y.To) && alikeTerms(x.T, y.T) })
}

func plainCopyWorker(w impl.Worker) impl.Worker {
	w.State.L, w.Box = plainCopyTerms(w.State.L), plainCopyTerms(w.Box)
	return w
}

func workerListSpans(w impl.Worker) []span {
	return append(termListSpans(w.State.L), termListSpans(w.Box)...)
}

func workerSpans(w impl.Worker) []span {
	return slices.Concat(textSpan(w.Name), textSpan(w.Mod), textSpan(w.State.S), termSpans(w.State.L), termSpans(w.Box))
}

func sendListSpans(l []impl.Send) []span {
	all := listSpan(l)
	for _, s := range l {
		all = append(append(all, termListSpans(s.To.L)...), termListSpans(s.T.L)...)
	}
	return all
}

func sendSpans(l []impl.Send) []span {
	all := sendListSpans(l)
	for _, s := range l {
		all = slices.Concat(all, textSpan(s.To.S), textSpan(s.T.S), termTextSpans(s.To.L), termTextSpans(s.T.L))
	}
	return all
}

// workerApart: a worker and what it sends share no memory with any argument, and no two of their lists share any.
func workerApart(t *testing.T, what string, w impl.Worker, sends []impl.Send, args ...[]span) {
	t.Helper()
	if meeting(append(workerSpans(w), sendSpans(sends)...), append([]span{}, slices.Concat(args...)...)) {
		t.Fatalf("%s: the answer shares memory with an argument: %+v, %+v", what, w, sends)
	}
	if meeting(append(workerListSpans(w), sendListSpans(sends)...), nil) {
		t.Fatalf("%s: two lists of the answer share memory: %+v, %+v", what, w, sends)
	}
}

// plainWorkerOk: the chapter's words once more.
func plainWorkerOk(w impl.Worker) bool {
	terms := append([]impl.Term{w.State}, w.Box...)
	return w.Pid > 0 && w.Pid < 1000001 && plainAtom.MatchString(w.Name) && plainAtom.MatchString(w.Mod) && w.No > 0 && w.No < 10001 && len(w.Box) < 21 && !slices.ContainsFunc(terms, func(x impl.Term) bool { return !plainTermOk(x) })
}

func plainPutWord(w impl.Worker, x impl.Term) (impl.Worker, bool) {
	own := plainCopyWorker(w)
	if !plainWorkerOk(w) || !plainTermOk(x) || len(w.Box) == 20 {
		return own, false
	}
	own.Box = append(own.Box, plainCopyTerms([]impl.Term{x})...)
	return own, true
}

func plainSends(x impl.Term) ([]impl.Send, bool) {
	var sends []impl.Send
	for _, pair := range x.L {
		if pair.K != impl.TTuple || len(pair.L) != 2 || !slices.Contains([]int{impl.TAtom, impl.TPid}, pair.L[0].K) {
			return nil, false
		}
		own := plainCopyTerms(pair.L)
		sends = append(sends, impl.Send{To: own[0], T: own[1]})
	}
	if x.K != impl.TList {
		return nil, false
	}
	return sends, true
}

// plainComes: what the parts of an answer are bound to, where it matches.
func plainComes(t *testing.T, pattern string, x impl.Term) ([]impl.Bind, bool) {
	t.Helper()
	if !plainTermOk(x) {
		return nil, false
	}
	return plainMatch(patternOf(t, pattern), x)
}

func plainDoWord(t *testing.T, l []impl.Entry, w impl.Worker) (impl.Worker, []impl.Send, int) {
	t.Helper()
	own := plainCopyWorker(w)
	if !plainTableOk(l) || !plainWorkerOk(w) || len(w.Box) == 0 {
		return own, nil, impl.DoNone
	}
	own.Box = own.Box[1:]
	c, there := plainCodeOf(l, w.Mod, w.No)
	x, code := impl.VmRun(c, "handle", []impl.Term{w.State, w.Box[0]}, 3000)
	if !there || code != impl.EvGood {
		return own, nil, impl.DoFall
	}
	if binds, ok := plainComes(t, "{ok, S}", x); ok {
		own.State = binds[0].T
		return own, nil, impl.DoGood
	}
	if binds, ok := plainComes(t, "{ok, S, L}", x); ok {
		sends, ok := plainSends(binds[1].T)
		if !ok {
			return own, nil, impl.DoFall
		}
		own.State = binds[0].T
		return own, sends, impl.DoGood
	}
	if _, ok := plainComes(t, "{stop, R}", x); ok {
		return own, nil, impl.DoStop
	}
	return own, nil, impl.DoFall
}

func plainRenew(t *testing.T, l []impl.Entry, w impl.Worker) (impl.Worker, bool) {
	t.Helper()
	own, at := plainCopyWorker(w), plainPlace(l, w.Mod)
	if !plainTableOk(l) || !plainWorkerOk(w) || at < 0 || l[at].No == w.No {
		return own, false
	}
	x, code := impl.VmRun(l[at].Cur, "change", []impl.Term{w.State}, 3000)
	binds, ok := plainComes(t, "{ok, S}", x)
	if code != impl.EvGood || !ok {
		return own, false
	}
	own.No, own.State = l[at].No, binds[0].T
	return own, true
}

// workerIs: what WorkerOk answers is this, and as the witness has it; it leaves its argument as it is.
func workerIs(t *testing.T, what string, w impl.Worker, want bool) {
	t.Helper()
	kept := plainCopyWorker(w)
	if got, plain := impl.WorkerOk(w), plainWorkerOk(w); got != want || plain != want {
		t.Errorf("%s: %v, the witness %v, not %v: %+v", what, got, plain, want, w)
	}
	if !alikeWorkers(w, kept) {
		t.Errorf("%s: WorkerOk wrote into its argument", what)
	}
}

// putsWord: what PutWord answers is as the witness has it, and in memory of its own; it leaves its arguments as they are.
func putsWord(t *testing.T, what string, w impl.Worker, x impl.Term) (impl.Worker, bool) {
	t.Helper()
	kept, keptWord := plainCopyWorker(w), plainCopyTerms([]impl.Term{x})[0]
	want, wanted := plainPutWord(w, x)
	got, ok := impl.PutWord(w, x)
	if ok != wanted || !alikeWorkers(got, want) {
		t.Fatalf("%s: PutWord of %+v: %v, %+v, not %v, %+v", what, x, ok, got, wanted, want)
	}
	if !alikeWorkers(w, kept) || !alikeTerms(x, keptWord) {
		t.Fatalf("%s: PutWord wrote into an argument", what)
	}
	workerApart(t, what, got, nil, workerSpans(w), textSpan(x.S), termSpans(x.L))
	if ok && (!impl.WorkerOk(got) || len(got.Box) != len(w.Box)+1 || !impl.SameTerm(got.Box[len(w.Box)], x)) {
		t.Fatalf("%s: what was put does not wait behind the others: %+v", what, got)
	}
	if !ok && !alikeWorkers(got, w) {
		t.Fatalf("%s: not the worker as it was beside false: %+v", what, got)
	}
	return got, ok
}

// sendsFrom: what SendsOf answers is as the witness has it, and in memory of its own; it leaves its argument as it is.
func sendsFrom(t *testing.T, what string, x impl.Term) ([]impl.Send, bool) {
	t.Helper()
	kept := plainCopyTerms([]impl.Term{x})[0]
	want, wanted := plainSends(x)
	got, ok := impl.SendsOf(x)
	if ok != wanted || !alikeSends(got, want) || !ok && len(got) > 0 {
		t.Fatalf("%s: SendsOf of %+v: %v, %+v, not %v, %+v", what, x, ok, got, wanted, want)
	}
	if !alikeTerms(x, kept) {
		t.Fatalf("%s: SendsOf wrote into its argument", what)
	}
	workerApart(t, what, impl.Worker{}, got, textSpan(x.S), termSpans(x.L))
	return got, ok
}

// doesWord: what DoWord answers is as the witness has it, and in memory of its own; it leaves its arguments as they are. A worker that is right stays so, its first word is gone, and its State is another one only with DoGood.
func doesWord(t *testing.T, what string, l []impl.Entry, w impl.Worker) (impl.Worker, []impl.Send, int) {
	t.Helper()
	kept, keptTable := plainCopyWorker(w), plainCopyTable(l)
	want, wantedSends, wanted := plainDoWord(t, l, w)
	got, sends, code := impl.DoWord(l, w)
	if code != wanted || !alikeWorkers(got, want) || !alikeSends(sends, wantedSends) {
		t.Fatalf("%s: DoWord of %+v: %d, %+v, %+v, not %d, %+v, %+v", what, w, code, got, sends, wanted, want, wantedSends)
	}
	if !alikeWorkers(w, kept) || !sameTable(l, keptTable) {
		t.Fatalf("%s: DoWord wrote into an argument", what)
	}
	workerApart(t, what, got, sends, workerSpans(w), tableSpans(l))
	if code == impl.DoNone {
		if !alikeWorkers(got, w) || len(sends) > 0 {
			t.Fatalf("%s: not the worker as it was, or something sent, beside DoNone: %+v, %+v", what, got, sends)
		}
		return got, sends, code
	}
	if !impl.WorkerOk(got) || got.Pid != w.Pid || got.Name != w.Name || got.Mod != w.Mod || got.No != w.No || !slices.EqualFunc(got.Box, w.Box[1:], alikeTerms) {
		t.Fatalf("%s: another worker, not right any more, or others wait: %+v, not as %+v", what, got, w)
	}
	if code != impl.DoGood && (!alikeTerms(got.State, w.State) || len(sends) > 0) {
		t.Fatalf("%s: another State, or something sent, beside %d: %+v, %+v", what, code, got, sends)
	}
	for _, s := range sends {
		if !impl.TermOk(s.To) || !impl.TermOk(s.T) || s.To.K != impl.TAtom && s.To.K != impl.TPid {
			t.Fatalf("%s: sends %+v", what, s)
		}
	}
	return got, sends, code
}

// renews: as doesWord, of Renew.
func renews(t *testing.T, what string, l []impl.Entry, w impl.Worker) (impl.Worker, bool) {
	t.Helper()
	kept, keptTable := plainCopyWorker(w), plainCopyTable(l)
	want, wanted := plainRenew(t, l, w)
	got, ok := impl.Renew(l, w)
	if ok != wanted || !alikeWorkers(got, want) {
		t.Fatalf("%s: Renew of %+v: %v, %+v, not %v, %+v", what, w, ok, got, wanted, want)
	}
	if !alikeWorkers(w, kept) || !sameTable(l, keptTable) {
		t.Fatalf("%s: Renew wrote into an argument", what)
	}
	workerApart(t, what, got, nil, workerSpans(w), tableSpans(l))
	if !ok {
		if !alikeWorkers(got, w) {
			t.Fatalf("%s: not the worker as it was beside false: %+v", what, got)
		}
		return got, ok
	}
	if !impl.WorkerOk(got) || got.No != impl.NewestOf(l, w.Mod) || got.Pid != w.Pid || got.Name != w.Name || got.Mod != w.Mod || !slices.EqualFunc(got.Box, w.Box, alikeTerms) {
		t.Fatalf("%s: another worker, not right any more, not of the newest, or others wait: %+v, not as %+v", what, got, w)
	}
	if again, ok := impl.Renew(l, got); ok || !alikeWorkers(again, got) {
		t.Fatalf("%s: what has the newest is renewed: %+v", what, again)
	}
	return got, ok
}

// numTerms: the numbers from 0 on, told from each other.
func numTerms(many int) []impl.Term {
	var l []impl.Term
	for i := range many {
		l = append(l, intTerm(i))
	}
	return l
}

// notWorkers: workers that are not right, each by one fault, with a word that waits.
func notWorkers() map[string]impl.Worker {
	l := map[string]impl.Worker{"the zero one": {}, "a Box of 21": workerOf("k", 1, intTerm(5), numTerms(21)...), "a Box of 100": workerOf("k", 1, intTerm(5), numTerms(100)...)}
	with := func(what string, change func(w *impl.Worker)) {
		w := workerOf("k", 1, intTerm(5), numTerms(4)...)
		change(&w)
		l[what] = w
	}
	for _, n := range []int{math.MinInt, -1, 0, 1000001, 1<<32 + 1, math.MaxInt} {
		with(fmt.Sprint("the Pid ", n), func(w *impl.Worker) { w.Pid = n })
	}
	for _, n := range []int{math.MinInt, -1, 0, 10001, 65537, 1<<32 + 1, math.MaxInt} {
		with(fmt.Sprint("the No ", n), func(w *impl.Worker) { w.No = n })
	}
	for _, s := range []string{"", "A", "_", "_a", "0a", "a b", "a\x00", "ä", "k.", twentySmall + "u", strings.Repeat("a", 1000)} {
		with(fmt.Sprintf("the Name %q", s), func(w *impl.Worker) { w.Name = s })
		with(fmt.Sprintf("the Mod %q", s), func(w *impl.Worker) { w.Mod = s })
	}
	for i, x := range wrongTerms() {
		with(fmt.Sprint("a wrong State ", i), func(w *impl.Worker) { w.State = x })
		for at := range 4 {
			with(fmt.Sprint("a wrong word ", i, " at ", at), func(w *impl.Worker) { w.Box[at] = x })
		}
	}
	return l
}

func TestWorkerConstants(t *testing.T) {
	if impl.MaxBox != 20 || impl.MaxSteps != 3000 || impl.DoNone != 0 || impl.DoGood != 1 || impl.DoStop != 2 || impl.DoFall != 3 {
		t.Error(impl.MaxBox, impl.MaxSteps, impl.DoNone, impl.DoGood, impl.DoStop, impl.DoFall)
	}
}

func TestWorkerOk(t *testing.T) {
	for what, w := range notWorkers() {
		workerIs(t, what, w, false)
	}
	workerIs(t, "nothing waits", workerOf("k", 1, intTerm(0)), true)
	workerIs(t, "an empty Box", impl.Worker{Pid: 1, Name: "w", Mod: "k", No: 1, State: atomTerm("a"), Box: []impl.Term{}}, true)
	for many := range 23 {
		workerIs(t, fmt.Sprint("a Box of ", many), workerOf("k", 1, intTerm(5), numTerms(many)...), many <= 20)
	}
	for _, pid := range []int{1, 2, 999999, 1000000} {
		for _, no := range []int{1, 2, 9999, 10000} {
			for _, name := range []string{"a", "case", "a_0", twentySmall} {
				workerIs(t, "an edge", impl.Worker{Pid: pid, Name: name, Mod: "m", No: no, State: intTerm(-1)}, true)
				workerIs(t, "an edge", impl.Worker{Pid: pid, Name: "w", Mod: name, No: no, State: intTerm(-1)}, true)
			}
		}
	}
	for _, x := range append(wideAndDeep(), risingTerms()...) {
		workerIs(t, "a right State", workerOf("k", 1, x), true)
		workerIs(t, "right words", workerOf("k", 1, x, timesTerm(20, x)...), true)
	}
	// A worker without State is none, as the zero Term is none.
	workerIs(t, "no State", impl.Worker{Pid: 1, Name: "w", Mod: "k", No: 1}, false)
	for i, x := range wrongTerms() {
		box := numTerms(20)
		box[19] = x
		workerIs(t, fmt.Sprint("the last of 20 is wrong ", i), workerOf("k", 1, intTerm(1), box...), false)
	}
}

func TestPutWord(t *testing.T) {
	w := workerOf("k", 7, termFrom(t, "{a, [1]}"))
	for many := range 25 {
		word := tupleTerm(intTerm(many))
		got, ok := putsWord(t, fmt.Sprint("behind ", many), w, word)
		if ok != (many < 20) || len(got.Box) != min(many+1, 20) {
			t.Fatal("behind", many, ok, len(got.Box))
		}
		w = got
	}
	for i, word := range w.Box {
		if !alikeTerms(word, tupleTerm(intTerm(i))) {
			t.Error("at", i, "waits", word)
		}
	}
	for _, x := range append(wideAndDeep(), risingTerms()...) {
		for _, many := range []int{0, 1, 19, 20} {
			if _, ok := putsWord(t, "a right one", workerOf("k", 1, intTerm(1), numTerms(many)...), x); ok != (many < 20) {
				t.Error(x, "behind", many, ok)
			}
		}
	}
}

// TestPutWordRefused: the worker is as it was, right or not, with all its fields.
func TestPutWordRefused(t *testing.T) {
	for i, x := range wrongTerms() {
		for _, many := range []int{0, 1, 19, 20} {
			if _, ok := putsWord(t, fmt.Sprint("a wrong one ", i), workerOf("k", 3, countedTerm(20), numTerms(many)...), x); ok {
				t.Error("a wrong one", i, "waits behind", many)
			}
		}
	}
	for what, w := range notWorkers() {
		for _, x := range []impl.Term{intTerm(1), atomTerm("a"), countedTerm(9), {}, atomTerm("A")} {
			if got, ok := putsWord(t, what, w, x); ok || got.Pid != w.Pid || got.No != w.No || got.Name != w.Name || got.Mod != w.Mod {
				t.Error(what, ok)
			}
		}
	}
}

func TestSendsOf(t *testing.T) {
	for _, x := range []struct {
		text string
		want int
	}{
		{"[]", 0}, {"[{a, 1}]", 1}, {"[{pid(4), 1}]", 1}, {"[{pid(0), 1}, {pid(1000000), 2}]", 2}, {"[{a, b}, {pid(1), [c]}, {a, {}}]", 3}, {"[{a, a}, {a, a}]", 2}, {"[{case1, {ok, 1}}]", 1}, {"[{a, [{b, 1}]}]", 1},
		{"[{1, a}]", -1}, {"[{(0 - 1), a}]", -1}, {"[{{a}, a}]", -1}, {"[{[a], a}]", -1}, {"[{{}, a}]", -1}, {"[{[], a}]", -1}, {"[{a}]", -1}, {"[{pid(1)}]", -1}, {"[{}]", -1}, {"[{a, b, c}]", -1}, {"[{pid(1), b, c}]", -1}, {"[[a, 1]]", -1}, {"[[]]", -1}, {"[a]", -1}, {"[1]", -1}, {"[pid(1)]", -1}, {"[a, 1]", -1}, {"[pid(1), 1]", -1},
		{"[{a, 1}, {b}]", -1}, {"[{a, 1}, {b, 2}, {3, 3}]", -1}, {"[{1, 1}, {a, 1}]", -1}, {"[{a, 1}, b, {c, 3}]", -1}, {"[{a, 1}, [b, 2]]", -1}, {"[{a, 1}, {b, 2, 3}]", -1},
		{"{}", -1}, {"{{a, 1}}", -1}, {"{a, 1}", -1}, {"{{a, 1}, {b, 2}}", -1}, {"a", -1}, {"1", -1}, {"0", -1}, {"pid(4)", -1},
	} {
		term := termFrom(t, x.text)
		sends, ok := sendsFrom(t, x.text, term)
		if ok != (x.want >= 0) || len(sends) != max(x.want, 0) {
			t.Fatalf("%s: %v, %+v", x.text, ok, sends)
		}
		for i, s := range sends {
			if !alikeTerms(tupleTerm(s.To, s.T), term.L[i]) {
				t.Errorf("%s: at %d: %+v", x.text, i, s)
			}
		}
	}
	for many := range 61 {
		var l []impl.Term
		for i := range many {
			l = append(l, tupleTerm(pidTerm(i), intTerm(i)))
		}
		if sends, ok := sendsFrom(t, "many", listTerm(l...)); !ok || len(sends) != many {
			t.Error(many, ok, len(sends))
		}
		for at := range many {
			wrong := slices.Clone(l)
			wrong[at] = []impl.Term{tupleTerm(intTerm(1), intTerm(1)), tupleTerm(atomTerm("a")), intTerm(1), {}}[at%4]
			if sends, ok := sendsFrom(t, "one wrong", listTerm(wrong...)); ok || len(sends) > 0 {
				t.Error(many, "a wrong one at", at, ok, len(sends))
			}
		}
	}
	if sends, ok := sendsFrom(t, "the zero one", impl.Term{}); ok || len(sends) > 0 {
		t.Error("the zero one", sends)
	}
}

// TestSendsOfByKind: it goes by the kinds alone, as nothing is said of fields that these do not name.
func TestSendsOfByKind(t *testing.T) {
	pair := tupleTerm(atomTerm("a"), intTerm(1))
	for _, k := range []int{math.MinInt, -1, 0, 1, 2, 3, 4, 5, 6, 256 + impl.TList, 256 + impl.TTuple, math.MaxInt} {
		for _, x := range []impl.Term{{K: k, L: []impl.Term{pair}}, {K: k}, {K: k, N: 1}, {K: k, S: "a"}} {
			if sends, ok := sendsFrom(t, "a list of another kind", x); ok != (k == impl.TList) || ok && len(sends) != len(x.L) {
				t.Error(k, ok, sends)
			}
		}
		if _, ok := sendsFrom(t, "a pair of another kind", listTerm(pair, impl.Term{K: k, L: pair.L})); ok != (k == impl.TTuple) {
			t.Error("a pair of the kind", k, ok)
		}
		if _, ok := sendsFrom(t, "to another kind", listTerm(pair, tupleTerm(impl.Term{K: k, N: 1, S: "a"}, pair))); ok != (k == impl.TAtom || k == impl.TPid) {
			t.Error("to the kind", k, ok)
		}
	}
	for i, x := range wrongTerms() {
		if sends, ok := sendsFrom(t, "a wrong one", listTerm(pair, tupleTerm(atomTerm("b"), x))); !ok || !alikeTerms(sends[1].T, x) {
			t.Error(i, ok, sends)
		}
	}
	if sends, ok := sendsFrom(t, "61", listTerm(timesTerm(61, pair)...)); !ok || len(sends) != 61 {
		t.Error(ok, len(sends))
	}
}

// answer is what a word comes to, and what DoWord makes of it; state is empty where it stays.
type answer struct {
	text  string
	code  int
	state string
	sends string
}

func answers() []answer {
	l := []answer{
		{text: "{ok, 1}", code: impl.DoGood, state: "1"}, {text: "{ok, {}}", code: impl.DoGood, state: "{}"}, {text: "{ok, []}", code: impl.DoGood, state: "[]"}, {text: "{ok, ok}", code: impl.DoGood, state: "ok"}, {text: "{ok, pid(0)}", code: impl.DoGood, state: "pid(0)"}, {text: "{ok, {ok, 2}}", code: impl.DoGood, state: "{ok, 2}"}, {text: "{ok, {stop, 2}}", code: impl.DoGood, state: "{stop, 2}"}, {text: "{ok, [{a, 1}]}", code: impl.DoGood, state: "[{a, 1}]"},
		{text: "{ok, 1, []}", code: impl.DoGood, state: "1"}, {text: "{ok, 1, [{a, 2}]}", code: impl.DoGood, state: "1", sends: "{a, 2}"}, {text: "{ok, {ok, 1, [{b, 3}]}, [{pid(4), 2}, {b, []}, {b, {ok}}]}", code: impl.DoGood, state: "{ok, 1, [{b, 3}]}", sends: "{pid(4), 2}, {b, []}, {b, {ok}}"},
		{text: "{stop, 1}", code: impl.DoStop}, {text: "{stop, {}}", code: impl.DoStop}, {text: "{stop, ok}", code: impl.DoStop}, {text: "{stop, {ok, 1}}", code: impl.DoStop}, {text: "{stop, [{a, 1}]}", code: impl.DoStop},
	}
	for _, text := range []string{
		"{ok, 1, {}}", "{ok, 1, a}", "{ok, 1, 1}", "{ok, 1, pid(1)}", "{ok, 1, {{a, 2}}}", "{ok, 1, {a, 2}}", "{ok, 1, [{1, 2}]}", "{ok, 1, [{a}]}", "{ok, 1, [{a, 2, 3}]}", "{ok, 1, [[a, 2]]}", "{ok, 1, [a, 2]}", "{ok, 1, [{a, 2}, {a}]}", "{ok, 1, [{a, 2}, b]}", "{ok, [], [{{a}, 2}]}", "{ok, [{a, 2}], 1}",
		"{ok}", "ok", "{ok, 1, [], []}", "{ok, 1, [{a, 2}], [{a, 2}]}", "{ok, 1, 2, 3, 4}", "[ok, 1]", "[ok, 1, []]", "[ok]", "[{ok, 1}]", "{{ok, 1}}",
		"{stop}", "stop", "{stop, 1, 1}", "{stop, 1, []}", "{stop, 1, [{a, 2}]}", "{stop, 1, 2, 3}", "[stop, 1]", "{{stop, 1}}",
		"{other, 1}", "{o, 1}", "{okk, 1}", "{ok_, 1}", "{sto, 1}", "{stopp, 1}", "{good, 1}", "{fall, 1}", "{none, 1}", "{other, 1, []}", "{other, 1, [{a, 2}]}", "{1, 1}", "{2, 1}", "{0, 1}", "{{ok}, 1}", "{[ok], 1}", "{[], 1}", "{{}, 1}", "{pid(1), 1}", "{1, ok}", "{1, stop}", "{a, ok}", "{1, ok, []}", "{1, 1, []}", "{pid(1), 1, [{a, 2}]}", "{{stop}, 1}", "{[stop], 1}",
		"{}", "[]", "1", "0", "(0 - 1)", "a", "pid(1)", "[1, 2, 3]", "{a, b, c}",
	} {
		l = append(l, answer{text: text, code: impl.DoFall})
	}
	return l
}

func TestDoWordByAnswers(t *testing.T) {
	l := tableFor(t, echo)
	for _, x := range answers() {
		w := workerOf("k", 1, termFrom(t, "{was, [there]}"), termFrom(t, x.text), intTerm(77), atomTerm("b"))
		got, sends, code := doesWord(t, x.text, l, w)
		state := "{was, [there]}"
		if x.state != "" {
			state = x.state
		}
		if code != x.code || !alikeTerms(got.State, termFrom(t, state)) || len(got.Box) != 2 || got.Box[0].N != 77 || got.Box[1].S != "b" {
			t.Errorf("%s: %d, %+v", x.text, code, got)
		}
		want, _ := plainSends(termFrom(t, "["+x.sends+"]"))
		if !alikeSends(sends, want) {
			t.Errorf("%s: sends %+v", x.text, sends)
		}
		// The same without any other word, and made by the code itself.
		if _, _, code = doesWord(t, x.text, l, workerOf("k", 1, intTerm(1), termFrom(t, x.text))); code != x.code {
			t.Errorf("%s, alone: %d", x.text, code)
		}
		if strings.Contains(x.text, "pid") {
			continue
		}
		if _, _, code = doesWord(t, x.text, tableFor(t, "handle(S, W) -> "+x.text+"."), w); code != x.code {
			t.Errorf("%s, made: %d", x.text, code)
		}
	}
}

// TestDoWordOfStateAndWord: handle has the State and the first word, in this order.
func TestDoWordOfStateAndWord(t *testing.T) {
	l := tableFor(t, "handle(S, W) -> {ok, {S, W}, [{S, W}, {W, S}]}.")
	w := workerOf("k", 1, atomTerm("s"), pidTerm(3), atomTerm("x"), intTerm(1))
	got, sends, code := doesWord(t, "both", l, w)
	if code != impl.DoGood || impl.TermText(got.State) != "{s,<3>}" || len(sends) != 2 || sends[0].To.S != "s" || sends[0].T.N != 3 || sends[1].To.N != 3 || sends[1].T.S != "s" {
		t.Error(code, got, sends)
	}
	got, sends, code = doesWord(t, "the next one", l, got)
	if code != impl.DoFall || impl.TermText(got.State) != "{s,<3>}" || len(sends) != 0 || len(got.Box) != 1 || got.Box[0].N != 1 {
		t.Error(code, got, sends)
	}
}

// TestDoWordByFaults: each fault that code may come to is a fall.
func TestDoWordByFaults(t *testing.T) {
	codes := map[string]impl.Code{
		"EvForm of a slot":  {Fns: []impl.Fn{fnOf("handle", 2, 3, "atom ok; load 2; tuple 2; ret")}},
		"no Fns":            {},
		"patterns alone":    {Pats: []impl.Pat{intP(1)}},
		"a Fn at once fail": {Fns: []impl.Fn{fnOf("handle", 2, 2, "fail")}},
	}
	for what, text := range map[string]string{
		"EvMatch": "handle(S, W) -> case W of 9 -> {ok, 1} end.", "EvArith of an atom": "handle(S, W) -> {ok, (W + a)}.", "EvArith beyond MaxInt": "handle(S, W) -> {ok, (1000000000000 * 1000000000000)}.", "EvArith of no list": "handle(S, W) -> {ok, [1 | W]}.",
		"EvBig": "handle(S, W) -> {ok, f(f(W))}. f(X) -> {{{{X}}}}.", "EvDeep": "handle(S, W) -> f(W). f(X) -> f(X).", "EvDeep behind a good one": "handle(S, W) -> {ok, f(W), []}. f(X) -> {ok, f(X)}.", "EvFuel": "handle(S, W) -> f(f(f(f(8)))). f(N) -> case N of 0 -> 8; M -> case {f((M - 1)), f((M - 1))} of {A, B} -> A end end.",
		"handle of none": "handle() -> {ok, 1}.", "handle of one": "handle(S) -> {ok, S}.", "handle of three": "handle(S, W, L) -> {ok, S}.", "no handle": "handler(S, W) -> {ok, S}. change(S) -> {ok, S}. h(S, W) -> {ok, S}.", "change of two": "change(S, W) -> {ok, S}.",
	} {
		codes[what] = codeFor(t, text)
	}
	for what, c := range codes {
		w := workerOf("k", 1, atomTerm("was"), intTerm(1), intTerm(2), intTerm(3))
		l := []impl.Entry{entryOf("k", 1, c), entryOf("l", 1, codeFor(t, echo))}
		for left := 2; left >= 0; left-- {
			got, _, code := doesWord(t, what, l, w)
			if code != impl.DoFall || got.State.S != "was" || len(got.Box) != left {
				t.Fatal(what, code, got)
			}
			w = got
		}
		if _, _, code := doesWord(t, what, l, w); code != impl.DoNone {
			t.Error(what, "with nothing that waits:", code)
		}
	}
	// What faults for one word may do another.
	l := []impl.Entry{entryOf("k", 1, codes["EvMatch"])}
	got, _, code := doesWord(t, "behind a fault", l, workerOf("k", 1, atomTerm("was"), intTerm(1), intTerm(9)))
	if got, _, again := doesWord(t, "behind a fault", l, got); code != impl.DoFall || again != impl.DoGood || got.State.N != 1 {
		t.Error("behind a fault:", code, again, got)
	}
}

// TestDoWordOfGreatStates: the whole answer is a right term, so the State in it has a depth less, and at most 298 terms.
func TestDoWordOfGreatStates(t *testing.T) {
	l := tableFor(t, "handle(S, W) -> case W of two -> {ok, S}; three -> {ok, S, []}; stop -> {stop, S} end. change(S) -> {ok, S}.")
	for _, x := range []struct {
		state impl.Term
		two   int
		three int
		stop  int
	}{
		{countedTerm(297), impl.DoGood, impl.DoGood, impl.DoStop}, {countedTerm(298), impl.DoGood, impl.DoFall, impl.DoStop}, {countedTerm(299), impl.DoFall, impl.DoFall, impl.DoFall}, {countedTerm(300), impl.DoFall, impl.DoFall, impl.DoFall},
		{nestedTerm(impl.TList, 6, intTerm(1)), impl.DoGood, impl.DoGood, impl.DoStop}, {nestedTerm(impl.TList, 7, intTerm(1)), impl.DoFall, impl.DoFall, impl.DoFall}, {listTerm(timesTerm(60, intTerm(1))...), impl.DoGood, impl.DoGood, impl.DoStop},
	} {
		for word, want := range map[string]int{"two": x.two, "three": x.three, "stop": x.stop} {
			if _, _, code := doesWord(t, word, l, workerOf("k", 1, x.state, atomTerm(word))); code != want {
				t.Errorf("%s of %d, %d deep: %d, not %d", word, impl.CountOf(x.state), impl.DepthOf(x.state), code, want)
			}
		}
		if _, ok := renews(t, "a great State", l, workerOf("k", 2, x.state)); ok != (x.two == impl.DoGood) {
			t.Errorf("Renew of %d, %d deep: %v", impl.CountOf(x.state), impl.DepthOf(x.state), ok)
		}
	}
}

// TestDoWordByNumbers: the code is that of Mod and No, be it the newest or its Old, and no other's.
func TestDoWordByNumbers(t *testing.T) {
	says := func(n int) impl.Code { return codeFor(t, "handle(S, W) -> {ok, "+strconv.Itoa(n)+"}.") }
	l := []impl.Entry{entryOf("a", 1, says(10)), entryWithOld("b", 5, says(20), says(21)), entryOf("c", 10000, says(30)), {Name: "d", No: 3, HasOld: true, Cur: says(40)}, {Name: "e", No: 3, Cur: says(50), Old: impl.Code{Pats: []impl.Pat{intP(1)}}}}
	there := map[string]int{"a 1": 10, "b 5": 20, "b 4": 21, "c 10000": 30, "d 3": 40, "e 3": 50}
	good := 0
	for _, mod := range []string{"a", "b", "c", "d", "e", "f", "aa", "handle", twentySmall} {
		for _, no := range []int{1, 2, 3, 4, 5, 6, 9999, 10000} {
			want, is := there[fmt.Sprint(mod, " ", no)]
			got, _, code := doesWord(t, "by numbers", l, workerOf(mod, no, intTerm(7), intTerm(1)))
			if is && (code != impl.DoGood || got.State.N != want) || !is && (code != impl.DoFall || got.State.N != 7) {
				t.Errorf("%s %d: %d, %+v", mod, no, code, got)
			}
			if code == impl.DoGood {
				good++
			}
			if _, _, code = doesWord(t, "no code at all", nil, workerOf(mod, no, intTerm(7), intTerm(1))); code != impl.DoFall {
				t.Errorf("%s %d, no code at all: %d", mod, no, code)
			}
		}
	}
	if good != len(there) {
		t.Error(good)
	}
}

// codeOfSteps: name, of so many parameters, does this answer, whose last Ins, at LAST, is not come to, in just so many steps, from 2000 to 3001.
func codeOfSteps(name string, args int, steps int, answer string) impl.Code {
	done := len(asm(strings.ReplaceAll(answer, "LAST", "0"))) - 1
	pad := steps - 1502 - 1 - done
	first := append(jumps(0, pad), asm("call g 0; "+strings.ReplaceAll(answer, "LAST", strconv.Itoa(pad+1+done)))...)
	return impl.Code{
		Fns:  []impl.Fn{{Name: name, Args: args, Slots: args, Ins: first}, {Name: "g", Ins: append(jumps(0, 1498), asm("call h 0; ret")...)}, fnOf("h", 0, 0, "int 9; ret")},
		Pats: []impl.Pat{slotP(-1)},
	}
}

// TestDoWordSteps: just MaxSteps steps are done, one more is a fall.
func TestDoWordSteps(t *testing.T) {
	state, word := intTerm(3), intTerm(1)
	for steps := 2995; steps <= 3001; steps++ {
		for answer, want := range map[string]int{"match 0 LAST; atom ok; load 0; tuple 2; ret; fail": impl.DoGood, "match 0 LAST; atom ok; load 1; list 0; tuple 3; ret; fail": impl.DoGood, "match 0 LAST; atom stop; load 1; tuple 2; ret; fail": impl.DoStop} {
			c := codeOfSteps("handle", 2, steps, answer)
			_, just := impl.VmRun(c, "handle", []impl.Term{state, word}, steps)
			_, less := impl.VmRun(c, "handle", []impl.Term{state, word}, steps-1)
			if just != impl.EvGood || less != impl.EvFuel {
				t.Fatal(answer, "does not take", steps, "steps:", just, less)
			}
			if steps > 3000 {
				want = impl.DoFall
			}
			if got, _, code := doesWord(t, answer, []impl.Entry{entryOf("k", 1, c)}, workerOf("k", 1, state, word, word)); code != want || len(got.Box) != 1 {
				t.Error(answer, "in", steps, "steps:", code)
			}
		}
		c := codeOfSteps("change", 1, steps, "match 0 LAST; atom ok; load 0; tuple 2; ret; fail")
		if got, ok := renews(t, "by steps", []impl.Entry{entryOf("k", 2, c)}, workerOf("k", 1, state)); ok != (steps <= 3000) {
			t.Error("Renew in", steps, "steps:", ok, got)
		}
	}
}

// TestDoWordWhatWaits: the first word is done and gone, the others wait as they did.
func TestDoWordWhatWaits(t *testing.T) {
	l := tableFor(t, "handle(S, W) -> case W of {good, N} -> {ok, {S, N}}; {start, N} -> {ok, N}; {stop, N} -> {stop, N}; {send, N} -> {ok, N, [{a, N}]} end.")
	kinds := []string{"start", "stop", "send", "fall"}
	codes := []int{impl.DoGood, impl.DoStop, impl.DoGood, impl.DoFall}
	for many := range 21 {
		var box []impl.Term
		for i := range many {
			box = append(box, tupleTerm(atomTerm(kinds[i*7%4]), intTerm(i)))
		}
		w := workerOf("k", 1, intTerm(99), box...)
		for i := range many {
			got, sends, code := doesWord(t, fmt.Sprint(many, " wait, at ", i), l, w)
			if code != codes[i*7%4] || len(got.Box) != many-i-1 || !slices.EqualFunc(got.Box, box[i+1:], alikeTerms) {
				t.Fatal(many, i, code, got)
			}
			if code == impl.DoGood && got.State.N != i || code != impl.DoGood && !alikeTerms(got.State, w.State) {
				t.Fatal(many, i, code, "State", got.State)
			}
			if (len(sends) == 1) != (kinds[i*7%4] == "send") {
				t.Fatal(many, i, code, sends)
			}
			w = got
		}
		if _, _, code := doesWord(t, "nothing waits any more", l, w); code != impl.DoNone {
			t.Error(many, code)
		}
	}
}

func TestDoWordOfNone(t *testing.T) {
	l := append(tableFor(t, echo), entryOf("z", 1, numCode(1)))
	good := termFrom(t, "{ok, 2}")
	right := workerOf("k", 1, intTerm(5), good, intTerm(2))
	if _, _, code := doesWord(t, "right", l, right); code != impl.DoGood {
		t.Fatal(code)
	}
	none := func(what string, l []impl.Entry, w impl.Worker) {
		if got, _, code := doesWord(t, what, l, w); code != impl.DoNone || len(got.Box) != len(w.Box) {
			t.Error(what, code, got)
		}
	}
	none("nothing waits", l, workerOf("k", 1, intTerm(5)))
	none("nothing waits, no code", nil, workerOf("k", 1, intTerm(5)))
	none("nothing waits, no such number", l, workerOf("k", 2, intTerm(5)))
	for what, w := range notWorkers() {
		none(what, l, w)
		none(what+", no code", nil, w)
		w.Box = append([]impl.Term{good}, w.Box...)
		none(what+", behind a good word", l, w)
	}
	for what, wrong := range notTables() {
		none("no table: "+what, wrong, right)
		none("no table: "+what+", nothing waits", wrong, workerOf("k", 1, intTerm(5)))
		with := append(plainCopyTable(l[:1]), wrong...)
		none("no table, but the code is there: "+what, append(with, l[1]), right)
		none("no table, no worker: "+what, wrong, impl.Worker{})
	}
}

func TestRenewByAnswers(t *testing.T) {
	l := []impl.Entry{entryOf("a", 1, numCode(1)), entryWithOld("k", 7, codeFor(t, echo), codeFor(t, "change(S) -> {ok, 33}. handle(S, W) -> {ok, 44}."))}
	for _, x := range answers() {
		for _, no := range []int{1, 5, 6, 7, 8, 10000} {
			for _, box := range [][]impl.Term{nil, {intTerm(77), atomTerm("b")}, numTerms(20)} {
				got, ok := renews(t, x.text, l, workerOf("k", no, termFrom(t, x.text), box...))
				is := no != 7 && x.code == impl.DoGood && len(termFrom(t, x.text).L) == 2
				if ok != is || len(got.Box) != len(box) {
					t.Fatalf("%s, of %d: %v, %+v", x.text, no, ok, got)
				}
				if is && (got.No != 7 || !alikeTerms(got.State, termFrom(t, x.state))) {
					t.Errorf("%s, of %d: %+v", x.text, no, got)
				}
			}
		}
	}
}

func TestRenewByFaults(t *testing.T) {
	codes := map[string]impl.Code{
		"EvForm of a slot": {Fns: []impl.Fn{fnOf("change", 1, 2, "atom ok; load 1; tuple 2; ret")}},
		"no Fns":           {},
		"fail at once":     {Fns: []impl.Fn{fnOf("change", 1, 1, "fail")}},
	}
	for what, text := range map[string]string{
		"EvMatch": "change(S) -> case S of 2 -> {ok, 1} end.", "EvArith": "change(S) -> {ok, (S + a)}.", "EvBig": "change(S) -> {ok, f(f(S))}. f(X) -> {{{{X}}}}.", "EvDeep": "change(S) -> {ok, f(S)}. f(X) -> f(X).", "EvFuel": "change(S) -> {ok, f(f(f(f(8))))}. f(N) -> case N of 0 -> 8; M -> case {f((M - 1)), f((M - 1))} of {A, B} -> A end end.",
		"change of none": "change() -> {ok, 1}.", "change of two": "change(S, W) -> {ok, S}.", "no change": "changes(S) -> {ok, S}. handle(S, W) -> {ok, S}. chang(S) -> {ok, S}.", "with sends": "change(S) -> {ok, S, [{a, 1}]}.", "with no sends": "change(S) -> {ok, S, []}.", "stop": "change(S) -> {stop, S}.", "the State": "change(S) -> S.",
	} {
		codes[what] = codeFor(t, text)
	}
	good := codeFor(t, "change(S) -> {ok, (S * 2)}. handle(S, W) -> {ok, S}.")
	for what, c := range codes {
		for _, l := range [][]impl.Entry{{entryOf("k", 5, c)}, {entryWithOld("k", 5, c, good), entryOf("l", 5, good)}} {
			for _, no := range []int{1, 3, 4, 5, 6} {
				if got, ok := renews(t, what, l, workerOf("k", no, intTerm(8), numTerms(3)...)); ok || got.No != no || got.State.N != 8 {
					t.Error(what, no, ok, got)
				}
			}
		}
		// An Old that is wrong, or has no change, is not asked.
		if got, ok := renews(t, what, []impl.Entry{entryWithOld("k", 5, good, c)}, workerOf("k", 4, intTerm(8), numTerms(3)...)); !ok || got.No != 5 || got.State.N != 16 {
			t.Error(what, "in an Old:", ok, got)
		}
	}
}

func TestRenewByNumbers(t *testing.T) {
	says := func(n int) impl.Code { return codeFor(t, "change(S) -> {ok, {S, "+strconv.Itoa(n)+"}}.") }
	l := []impl.Entry{entryOf("a", 1, says(10)), entryWithOld("b", 5, says(20), says(21)), entryOf("c", 10000, says(30))}
	for mod, x := range map[string]struct {
		newest int
		says   string
	}{"a": {1, "{7,10}"}, "b": {5, "{7,20}"}, "c": {10000, "{7,30}"}, "d": {0, ""}, "aa": {0, ""}, "change": {0, ""}} {
		for _, no := range []int{1, 2, 4, 5, 6, 9999, 10000} {
			got, ok := renews(t, "by numbers", l, workerOf(mod, no, intTerm(7), numTerms(2)...))
			if is := x.newest != 0 && x.newest != no; ok != is || is && (got.No != x.newest || impl.TermText(got.State) != x.says) {
				t.Errorf("%s %d: %v, %+v", mod, no, ok, got)
			}
			if _, ok = renews(t, "no code at all", nil, workerOf(mod, no, intTerm(7))); ok {
				t.Errorf("%s %d is renewed of nothing", mod, no)
			}
		}
	}
}

func TestRenewRefused(t *testing.T) {
	l := append(tableFor(t, "change(S) -> {ok, 1}."), entryOf("z", 1, numCode(1)))
	l[0].No = 9
	right := workerOf("k", 1, intTerm(5), intTerm(2))
	if _, ok := renews(t, "right", l, right); !ok {
		t.Fatal("not renewed")
	}
	for what, w := range notWorkers() {
		if _, ok := renews(t, what, l, w); ok {
			t.Error(what)
		}
		if _, ok := renews(t, what, nil, w); ok {
			t.Error(what, "of nothing")
		}
	}
	for what, wrong := range notTables() {
		if _, ok := renews(t, what, wrong, right); ok {
			t.Error(what)
		}
		if _, ok := renews(t, what, append(append(plainCopyTable(l[:1]), wrong...), l[1]), right); ok {
			t.Error(what, "beside the code")
		}
	}
}

// TestLoadAndRenew: a worker goes on with what it has until it is renewed, and falls when that was purged.
func TestLoadAndRenew(t *testing.T) {
	text := func(n int) string {
		return "handle(S, W) -> {ok, (S + " + strconv.Itoa(n) + "), [{w, W}]}. change(S) -> {ok, (S * 10)}."
	}
	l, code := impl.LoadCode(nil, "k", codeFor(t, text(1)))
	w := workerOf("k", impl.NewestOf(l, "k"), intTerm(0))
	for _, word := range numTerms(5) {
		w, _ = putsWord(t, "a word", w, word)
	}
	step := func(what string, state int, want int) {
		t.Helper()
		var got int
		w, _, got = doesWord(t, what, l, w)
		if got != want || w.State.N != state {
			t.Errorf("%s: %d, %+v", what, got, w)
		}
	}
	step("the first", 1, impl.DoGood)
	l, code = loads(t, "the second", l, "k", codeFor(t, text(2)))
	step("with the old", 2, impl.DoGood)
	w, ok := renews(t, "the second", l, w)
	step("with the new", 22, impl.DoGood)
	l, gone := purges(t, "the first", l, "k")
	l, again := loads(t, "the third", l, "k", codeFor(t, text(3)))
	l, third := purges(t, "the second", l, "k")
	step("with none", 22, impl.DoFall)
	w, renewed := renews(t, "from one that is gone", l, w)
	step("with the third", 223, impl.DoGood)
	step("with nothing", 223, impl.DoNone)
	if code != impl.TabGood || gone != impl.TabGood || again != impl.TabGood || third != impl.TabGood || !ok || !renewed || w.No != 3 {
		t.Error(code, gone, again, third, ok, renewed, w)
	}
}

// mixedWorker: most often right, of code that is there.
func mixedWorker(r *rand.Rand, l []impl.Entry, words []impl.Term) impl.Worker {
	w := impl.Worker{Pid: []int{1, 2, 1000000}[r.Intn(3)], Name: []string{"w", "v", twentySmall}[r.Intn(3)], Mod: []string{"a", "b", "c", "d"}[r.Intn(4)], No: 1 + r.Intn(4), State: words[r.Intn(len(words))]}
	for range r.Intn(22) {
		w.Box = append(w.Box, words[r.Intn(len(words))])
	}
	if at := plainPlace(l, w.Mod); at >= 0 && r.Intn(3) > 0 {
		w.No = max(1, l[at].No-r.Intn(2))
	}
	switch r.Intn(40) {
	case 0:
		w.Pid = []int{-1, 0, 1000001}[r.Intn(3)]
	case 1:
		w.Name = []string{"", "W", twentySmall + "x"}[r.Intn(3)]
	case 2:
		w.Mod = []string{"", "A", twentySmall + "x"}[r.Intn(3)]
	case 3:
		w.No = []int{-1, 0, 10000, 10001}[r.Intn(4)]
	case 4:
		w.State = wrongTerms()[r.Intn(20)]
	case 5:
		w.Box = append(w.Box, wrongTerms()[r.Intn(20)])
	}
	return w
}

func TestWorkersByAnotherWitness(t *testing.T) {
	r := rand.New(rand.NewSource(13))
	var codes []impl.Code
	for _, text := range []string{
		echo, "handle(S, W) -> {ok, {S, W}}. change(S) -> {ok, [S]}.", "handle(S, W) -> {ok, W, [{S, W}, {W, S}]}. change(S) -> {ok, 1}.", "handle(S, W) -> {ok, S, W}. change(S) -> case S of {A, B} -> {ok, B}; X -> {ok, X, []} end.",
		"handle(S, W) -> case W of {N, M} -> {ok, (N + M)}; [A | L] -> {ok, A, [{a, S}, {b, L}]}; stop -> {stop, S}; X -> {ok, X, X} end.", "handle(S) -> {ok, S}. change(S, W) -> {ok, S}.", "change(S) -> {stop, S}. handle(S, W) -> {stop, W}.",
	} {
		codes = append(codes, codeFor(t, text))
	}
	words := randomTerms(13, 40, 3)
	for _, x := range answers() {
		words = append(words, termFrom(t, x.text))
	}
	for _, x := range randomTerms(14, 40, 3) {
		words = append(words, tupleTerm(atomTerm("ok"), x), tupleTerm(atomTerm("ok"), x, listTerm(tupleTerm(atomTerm("a"), x), tupleTerm(x, x))), listTerm(tupleTerm(x, x)))
	}
	var told [4]int
	var put, refused, renewed, stayed, sent int
	for range 1200 {
		var l []impl.Entry
		for range 1 + r.Intn(6) {
			name := []string{"a", "b", "c"}[r.Intn(3)]
			l, _ = impl.LoadCode(l, name, codes[r.Intn(len(codes))])
			if r.Intn(3) == 0 {
				l, _ = impl.PurgeCode(l, name)
			}
		}
		if r.Intn(20) == 0 {
			l = spoilTable(r, l)
		}
		w := mixedWorker(r, l, words)
		workerIs(t, "mixed", w, plainWorkerOk(w))
		word := words[r.Intn(len(words))]
		if r.Intn(20) == 0 {
			word = wrongTerms()[r.Intn(20)]
		}
		if _, ok := putsWord(t, "mixed", w, word); ok {
			put++
		} else {
			refused++
		}
		for range 4 {
			got, ok := renews(t, "mixed", l, w)
			if ok {
				renewed++
			} else {
				stayed++
			}
			if ok && r.Intn(3) == 0 {
				w = got
			}
			got, sends, code := doesWord(t, "mixed", l, w)
			told[code]++
			sent += len(sends)
			w = got
		}
		sendsFrom(t, "mixed", word)
	}
	for code, many := range told {
		if many < 100 {
			t.Error("too few to tell anything of code", code, many)
		}
	}
	if put < 100 || refused < 100 || renewed < 100 || stayed < 100 || sent < 100 {
		t.Error("too few to tell anything:", put, refused, renewed, stayed, sent)
	}
}

// TestWorkersLeaveArgumentsAlone: and what stands behind a list's length is neither read nor written.
func TestWorkersLeaveArgumentsAlone(t *testing.T) {
	build := func() ([]impl.Term, []impl.Term, []impl.Term, []impl.Entry) {
		parts := []impl.Term{atomTerm("ok"), intTerm(1), {K: 77}, {}}
		pairs := []impl.Term{tupleTerm(atomTerm("a"), intTerm(2)), tupleTerm(pidTerm(1), intTerm(3)), {K: 99}, {}}
		box := []impl.Term{{K: impl.TTuple, L: parts[:2]}, {K: impl.TTuple, L: []impl.Term{atomTerm("ok"), {K: impl.TTuple, L: parts[:2]}, {K: impl.TList, L: pairs[:2]}}}, {K: 88}, {}}
		l := []impl.Entry{entryOf("k", 2, codeFor(t, echo)), {}, {}}
		return parts, pairs, box, l
	}
	parts, pairs, box, l := build()
	wantParts, wantPairs, wantBox, wantL := build()
	for many := range 3 {
		w := impl.Worker{Pid: 1, Name: "w", Mod: "k", No: 2, State: impl.Term{K: impl.TTuple, L: parts[:2]}, Box: box[:many]}
		workerIs(t, "with room behind", w, true)
		putsWord(t, "with room behind", w, impl.Term{K: impl.TList, L: pairs[:2]})
		if got, _, code := doesWord(t, "with room behind", l[:1], w); (code == impl.DoGood) != (many > 0) || len(got.Box) != max(many-1, 0) {
			t.Error(many, code, got)
		}
		w.Box = box[2-many : 2]
		doesWord(t, "with room behind", l[:1], w)
		w.No = 1
		if got, ok := renews(t, "with room behind", l[:1], w); !ok || len(got.Box) != many {
			t.Error(many, ok, got)
		}
	}
	if sends, ok := sendsFrom(t, "with room behind", impl.Term{K: impl.TList, L: pairs[:2]}); !ok || len(sends) != 2 {
		t.Error(ok, sends)
	}
	if _, ok := sendsFrom(t, "with what was behind", impl.Term{K: impl.TList, L: pairs}); ok {
		t.Error("what was behind is read as sent")
	}
	workerIs(t, "with what was behind", impl.Worker{Pid: 1, Name: "w", Mod: "k", No: 2, State: intTerm(1), Box: box}, false)
	if !slices.EqualFunc(parts, wantParts, alikeTerms) || !slices.EqualFunc(pairs, wantPairs, alikeTerms) || !slices.EqualFunc(box, wantBox, alikeTerms) || !sameTable(l, wantL) {
		t.Error("a call wrote into its argument, or behind it")
	}
}

// TestWorkersShareNoMemory: one list everywhere in the arguments is apart at each place of an answer.
func TestWorkersShareNoMemory(t *testing.T) {
	x := listTerm(intTerm(1), tupleTerm(atomTerm("a"), listTerm()))
	both := tupleTerm(x, x)
	pair := tupleTerm(atomTerm("a"), both)
	word := tupleTerm(atomTerm("ok"), both, listTerm(pair, pair))
	for what, w := range map[string]impl.Worker{"right": workerOf("k", 1, both, word, both, word, x), "refused": workerOf("K", 1, both, word, both, word, x)} {
		putsWord(t, what, w, both)
		putsWord(t, what, w, impl.Term{K: 77, L: both.L})
		doesWord(t, what, tableFor(t, echo), w)
		doesWord(t, what, tableFor(t, "handle(S, W) -> {ok, {S, S}, [{a, S}, {b, S}, {c, {S, S}}]}. change(S) -> {ok, [S, S]}."), w)
		doesWord(t, what, tableFor(t, "handle(S, W) -> case S of Y -> {ok, Y, [{a, Y}]} end."), w)
		doesWord(t, what, tableFor(t, "handle(S, W) -> {stop, S}."), w)
		doesWord(t, what, nil, w)
		w.No = 2
		renews(t, what, tableFor(t, "handle(S, W) -> S. change(S) -> {ok, [S, S]}."), w)
		renews(t, what, nil, w)
	}
	sendsFrom(t, "one list", word.L[2])
	sendsFrom(t, "one list, not right", listTerm(tupleTerm(impl.Term{K: impl.TAtom, L: both.L}, impl.Term{K: 77, L: both.L}), pair))
	// What is answered may be written into, up to its room, and nothing else changes.
	w := workerOf("k", 1, both, word, both)
	kept := plainCopyWorker(w)
	got, sends, code := impl.DoWord(tableFor(t, echo), w)
	if code != impl.DoGood || len(sends) != 2 {
		t.Fatal(code, sends)
	}
	spoilTerms(got.Box)
	if !alikeTerms(got.State, both) || !alikeTerms(sends[0].T, both) || !alikeTerms(sends[1].T, both) {
		t.Error("what was written into a Box is elsewhere, too")
	}
	spoilTerms(sends[0].T.L)
	if !alikeTerms(got.State, both) || !alikeTerms(sends[1].T, both) || !alikeWorkers(w, kept) {
		t.Error("what was written into what is sent is elsewhere, too")
	}
}

// TestWorkersHoldTheirTexts: texts over bytes that change behind the call.
func TestWorkersHoldTheirTexts(t *testing.T) {
	text := []byte("namemodstatewordatomhandle")
	name, mod, state, word, atom, handle := unsafe.String(&text[0], 4), unsafe.String(&text[4], 3), unsafe.String(&text[7], 5), unsafe.String(&text[12], 4), unsafe.String(&text[16], 4), unsafe.String(&text[20], 6)
	c := impl.Code{Fns: []impl.Fn{
		{Name: handle, Args: 2, Slots: 2, Ins: append([]impl.Ins{{Op: impl.InAtom, S: "ok"}, {Op: impl.InAtom, S: atom}}, asm("load 0; load 1; tuple 2; list 1; tuple 3; ret")...)},
		{Name: "change", Args: 1, Slots: 1, Ins: append([]impl.Ins{{Op: impl.InAtom, S: "ok"}, {Op: impl.InAtom, S: atom}}, asm("tuple 2; ret")...)},
	}}
	l := []impl.Entry{entryOf(mod, 1, c)}
	w := impl.Worker{Pid: 1, Name: name, Mod: mod, No: 1, State: atomTerm(state), Box: []impl.Term{atomTerm(word), atomTerm(word)}}
	put, is := impl.PutWord(w, atomTerm(atom))
	refused, isNot := impl.PutWord(w, impl.Term{})
	done, sends, code := impl.DoWord(l, w)
	none, _, undone := impl.DoWord(l, impl.Worker{Name: name, Mod: mod, State: atomTerm(state), Box: w.Box})
	told, good := impl.SendsOf(listTerm(tupleTerm(atomTerm(name), atomTerm(word))))
	w.No = 2
	renewed, ok := impl.Renew(l, w)
	same, not := impl.Renew(nil, w)
	if string(text) != "namemodstatewordatomhandle" {
		t.Error("a text was written into")
	}
	overwrite(text)
	want := impl.Worker{Pid: 1, Name: "name", Mod: "mod", No: 1, State: atomTerm("state"), Box: []impl.Term{atomTerm("word"), atomTerm("word")}}
	if isNot || !alikeWorkers(refused, want) {
		t.Error("PutWord, refused:", isNot, refused)
	}
	if undone != impl.DoNone || !alikeWorkers(none, impl.Worker{Name: "name", Mod: "mod", State: atomTerm("state"), Box: want.Box}) {
		t.Error("DoWord of no worker:", undone, none)
	}
	want.Box = append(want.Box, atomTerm("atom"))
	if !is || !alikeWorkers(put, want) {
		t.Error("PutWord:", is, put)
	}
	want.State, want.Box = atomTerm("atom"), want.Box[1:2]
	if code != impl.DoGood || !alikeWorkers(done, want) || !alikeSends(sends, []impl.Send{{To: atomTerm("state"), T: atomTerm("word")}}) {
		t.Error("DoWord:", code, done, sends)
	}
	if !good || !alikeSends(told, []impl.Send{{To: atomTerm("name"), T: atomTerm("word")}}) {
		t.Error("SendsOf:", good, told)
	}
	want.Box = []impl.Term{atomTerm("word"), atomTerm("word")}
	if !ok || !alikeWorkers(renewed, want) {
		t.Error("Renew:", ok, renewed)
	}
	want.No, want.State = 2, atomTerm("state")
	if not || !alikeWorkers(same, want) {
		t.Error("Renew, refused:", not, same)
	}
}

// greatTerms: none of them right; very great, very deep, or without an end.
func greatTerms() map[string]impl.Term {
	ring := impl.Term{K: impl.TList, L: make([]impl.Term, 2)}
	ring.L[0], ring.L[1] = tupleTerm(atomTerm("ok"), ring), ring
	return map[string]impl.Term{
		"wide": listTerm(timesTerm(100000, tupleTerm(atomTerm("a"), intTerm(1)))...), "deep": nestedTerm(impl.TList, 100000, intTerm(1)), "doubled": doubledTerm(15, intTerm(1)), "doubled beyond counting": doubledTerm(200, atomTerm("a")), "round": roundTerm(1, 2, 3), "a ring": ring, "a long text": atomTerm(strings.Repeat("a", 10000000)), "a long text very often": listTerm(timesTerm(100000, atomTerm(strings.Repeat("a", 100000)))...),
	}
}

// sameWorkers: by SameTerm, which comes to an end whatever it is given.
func sameWorkers(a impl.Worker, b impl.Worker) bool {
	return a.Pid == b.Pid && a.Name == b.Name && a.Mod == b.Mod && a.No == b.No && impl.SameTerm(a.State, b.State) && slices.EqualFunc(a.Box, b.Box, impl.SameTerm)
}

// TestWorkersOfVeryMuch: very great and very deep arguments, and such as have no end, come to an end.
func TestWorkersOfVeryMuch(t *testing.T) {
	l := tableFor(t, echo)
	right := workerOf("k", 1, intTerm(1), intTerm(2))
	all := map[string]impl.Worker{"a long Name": {Pid: 1, Name: strings.Repeat("a", 10000000), Mod: "k", No: 1, State: intTerm(1), Box: numTerms(3)}, "a long Mod": {Pid: 1, Name: "w", Mod: strings.Repeat("a", 10000000), No: 1, State: intTerm(1), Box: numTerms(3)}, "a long Box": workerOf("k", 1, intTerm(1), numTerms(100000)...)}
	for what, x := range greatTerms() {
		all["State "+what] = workerOf("k", 2, x, intTerm(1))
		all["Box "+what] = workerOf("k", 2, intTerm(1), x, intTerm(1), x)
		all["both "+what] = workerOf("k", 2, x, x, x)
		if got, ok := impl.PutWord(right, x); ok || !sameWorkers(got, right) {
			t.Error(what, "waits")
		}
		if sends, ok := impl.SendsOf(x); ok != (what == "wide") || ok && len(sends) != len(x.L) {
			t.Error(what, "is sent:", ok, len(sends))
		}
		sends, ok := impl.SendsOf(listTerm(tupleTerm(atomTerm("a"), x), tupleTerm(pidTerm(1), x)))
		if !ok || len(sends) != 2 || !impl.SameTerm(sends[0].T, x) || !impl.SameTerm(sends[1].T, x) || len(x.L) > 0 && &sends[0].T.L[0] == &x.L[0] {
			t.Error(what, "within is not sent as it is:", ok, len(sends))
		}
		if sends, ok := impl.SendsOf(listTerm(tupleTerm(atomTerm("a"), x), x)); ok || len(sends) > 0 {
			t.Error(what, "behind a good one:", ok)
		}
	}
	for what, w := range all {
		put, ok := impl.PutWord(w, intTerm(1))
		done, sends, code := impl.DoWord(l, w)
		same, renewed := impl.Renew(l, w)
		if impl.WorkerOk(w) || ok || code != impl.DoNone || len(sends) > 0 || renewed || !sameWorkers(put, w) || !sameWorkers(done, w) || !sameWorkers(same, w) {
			t.Error(what, ok, code, renewed)
		}
		for _, got := range []impl.Worker{put, done, same} {
			if &got.Box[0] == &w.Box[0] || len(w.State.L) > 0 && &got.State.L[0] == &w.State.L[0] || len(w.Box[0].L) > 0 && &got.Box[0].L[0] == &w.Box[0].L[0] || unsafe.StringData(got.Name) == unsafe.StringData(w.Name) || unsafe.StringData(got.Mod) == unsafe.StringData(w.Mod) {
				t.Error(what, "shares memory with its argument")
			}
		}
	}
	for what, wrong := range map[string][]impl.Entry{"very many": make([]impl.Entry, 1000000), "very many of one name": slices.Repeat([]impl.Entry{l[0]}, 1000000)} {
		if got, _, code := impl.DoWord(wrong, right); code != impl.DoNone || !alikeWorkers(got, right) {
			t.Error(what, code)
		}
		if got, ok := impl.Renew(wrong, workerOf("k", 2, intTerm(1))); ok || got.No != 2 {
			t.Error(what, ok)
		}
	}
}

// TestWorkersOfVeryDeepTerms: deeper than the program's own stack could go.
func TestWorkersOfVeryDeepTerms(t *testing.T) {
	const deep = 4000000
	x := nestedTerm(impl.TTuple, deep, intTerm(1))
	refused, ok := impl.PutWord(impl.Worker{State: x}, intTerm(1))
	sends, sent := impl.SendsOf(listTerm(tupleTerm(atomTerm("a"), x)))
	if ok || !sent || len(sends) != 1 {
		t.Fatal(ok, sent, len(sends))
	}
	for what, own := range map[string]impl.Term{"State": refused.State, "T": sends[0].T} {
		depth := 0
		for part := x; len(part.L) > 0 && len(own.L) > 0 && &own.L[0] != &part.L[0]; own, part = own.L[0], part.L[0] {
			depth++
		}
		if depth != deep || own.N != 1 {
			t.Error(what, "shares memory, or is another one,", depth, "deep")
		}
	}
}

// TestWorkersOfMostWork: the greatest arguments that are right.
func TestWorkersOfMostWork(t *testing.T) {
	most := codeOfSteps("handle", 2, 3000, "match 0 LAST; atom ok; load 0; tuple 2; ret; fail")
	most.Pats = append(most.Pats, timesP(1999, manySlots(280))...)
	for i := range 9 {
		most.Fns = append(most.Fns, impl.Fn{Name: fmt.Sprint("f", i), Args: 4, Slots: 400, Ins: append(jumps(0, 1499), asm("fail")...)})
	}
	var l []impl.Entry
	for i := range 10 {
		l = append(l, entryWithOld(twentySmall[:19]+strconv.Itoa(i), 10000, most, most))
	}
	w := impl.Worker{Pid: 1000000, Name: twentySmall, Mod: l[9].Name, No: 9999, State: countedTerm(298), Box: timesTerm(19, countedTerm(300))}
	w, ok := impl.PutWord(w, countedTerm(300))
	got, sends, code := impl.DoWord(l, w)
	if !ok || code != impl.DoGood || len(sends) > 0 || len(got.Box) != 19 || !alikeTerms(got.State, w.State) {
		t.Error(ok, code, len(sends), len(got.Box))
	}
	for i := range l {
		l[i].Cur.Fns = slices.Clone(l[i].Cur.Fns)
		l[i].Cur.Fns[0] = fnOf("change", 1, 1, "atom ok; load 0; tuple 2; ret")
	}
	got, ok = impl.Renew(l, w)
	if !ok || got.No != 10000 || len(got.Box) != 20 {
		t.Error("Renew:", ok, got.No, len(got.Box))
	}
}
