package tests

import (
	"fmt"
	"math"
	"math/rand"
	"slices"
	"strconv"
	"strings"
	"testing"
	"unsafe"

	"loop.example/g00236/impl"
)

// obeys: a worker of it adds, says, comes to what it is told, or stops; all else is its fall, and so is no word that its change knows.
const obeys = "handle(S, W) -> case W of {add, N} -> {ok, (S + N)}; {say, L} -> {ok, S, L}; {come, X} -> X; stop -> {stop, S} end. change(S) -> case S of {bad, X} -> X; X -> {ok, {new, X}} end."

// oversFrom: an overseer between each two `;`, by its way, its MaxR, and its Kids as of oversIn; its MaxT is 10.
func oversFrom(t *testing.T, text string) []impl.Over {
	t.Helper()
	var l []impl.Over
	for part := range strings.SplitSeq(text, ";") {
		words := strings.Fields(part)
		o := oversIn(t, words[2])[0]
		o.Way = map[string]int{"one": impl.WayOne, "all": impl.WayAll, "rest": impl.WayRest}[words[0]]
		o.MaxR, _ = strconv.Atoi(words[1])
		l = append(l, o)
	}
	return l
}

// houseFrom: of these overseers, with the module k of the number 1.
func houseFrom(t *testing.T, text string) impl.House {
	t.Helper()
	h, ok := impl.HouseNew(tableFor(t, obeys), oversFrom(t, text))
	if !ok {
		t.Fatalf("%q is no house", text)
	}
	return h
}

// whoText: each worker's Name and Pid, then of each overseer the times, behind a `!` where it is Down.
func whoText(h impl.House) string {
	var parts []string
	for _, w := range h.Workers {
		parts = append(parts, fmt.Sprint(w.Name, w.Pid))
	}
	for _, o := range h.Overs {
		text := "| "
		if o.Down {
			text += "!"
		}
		if len(o.Times) == 0 {
			text += "-"
		}
		parts = append(parts, text+strings.Trim(strings.ReplaceAll(fmt.Sprint(o.Times), " ", ","), "[]"))
	}
	return strings.Join(parts, " ")
}

func houseText(h impl.House) string {
	return fmt.Sprintf("%s; next %d, now %d; %+v; %+v; %s", whoText(h), h.Next, h.Now, h.Workers, h.Overs, tableText(h.Tab))
}

func alikeHouses(a impl.House, b impl.House) bool {
	return a.Next == b.Next && a.Now == b.Now && sameTable(a.Tab, b.Tab) && slices.EqualFunc(a.Overs, b.Overs, alikeOvers) && slices.EqualFunc(a.Workers, b.Workers, alikeWorkers)
}

func plainCopyHouse(h impl.House) impl.House {
	own := impl.House{Tab: plainCopyTable(h.Tab), Overs: plainCopyOvers(h.Overs), Next: h.Next, Now: h.Now}
	for _, w := range h.Workers {
		own.Workers = append(own.Workers, plainCopyWorker(w))
	}
	return own
}

func houseListSpans(h impl.House) []span {
	all := slices.Concat(tableListSpans(h.Tab), listSpan(h.Overs), listSpan(h.Workers))
	for _, o := range h.Overs {
		all = append(all, overListSpans(o)...)
	}
	for _, w := range h.Workers {
		all = append(all, workerListSpans(w)...)
	}
	return all
}

func houseSpans(h impl.House) []span {
	all := slices.Concat(tableSpans(h.Tab), listSpan(h.Overs), listSpan(h.Workers))
	for _, o := range h.Overs {
		all = append(all, overSpans(o)...)
	}
	for _, w := range h.Workers {
		all = append(all, workerSpans(w)...)
	}
	return all
}

// houseApart: a house shares no memory with any argument, and no two of its lists share any.
func houseApart(t *testing.T, what string, h impl.House, args ...[]span) {
	t.Helper()
	if meeting(houseSpans(h), append([]span{}, slices.Concat(args...)...)) {
		t.Fatalf("%s: the answer shares memory with an argument: %s", what, houseText(h))
	}
	if meeting(houseListSpans(h), nil) {
		t.Fatalf("%s: two lists of the answer share memory: %s", what, houseText(h))
	}
}

// plainHouseOk: the chapter's words once more, by who owns which Pid.
func plainHouseOk(h impl.House) bool {
	if !plainTableOk(h.Tab) || !plainOversOk(h.Overs) || len(h.Workers) > 60 || h.Next < 1 || h.Next > 900000 || h.Now < 0 || h.Now > 100000000 {
		return false
	}
	last, byPid, owners := 0, map[int]impl.Worker{}, map[int]int{}
	for _, w := range h.Workers {
		if _, there := plainCodeOf(h.Tab, w.Mod, w.No); !there || !plainWorkerOk(w) || w.Pid >= h.Next || w.Pid <= last {
			return false
		}
		last, byPid[w.Pid] = w.Pid, w
	}
	for _, o := range h.Overs {
		if slices.ContainsFunc(o.Times, func(at int) bool { return at > h.Now }) {
			return false
		}
		for i, k := range o.Kids {
			w, is := byPid[o.Pids[i]]
			owners[o.Pids[i]]++
			switch {
			case k.Sub < 0 && plainPlace(h.Tab, k.Mod) < 0:
				return false
			case (o.Down || k.Sub >= 0) && o.Pids[i] != 0:
				return false
			case k.Sub >= 0 && (!o.Down && h.Overs[k.Sub].Down || o.Down && !h.Overs[k.Sub].Down):
				return false
			case !o.Down && k.Sub < 0 && (!is || w.Name != k.Name || w.Mod != k.Mod):
				return false
			}
		}
	}
	for pid := range byPid {
		if owners[pid] != 1 {
			return false
		}
	}
	return true
}

// plainHouse is another witness: it knows workers by their names, of which none comes twice where a house is right, and asks nobody for a Pid but where one is given.
type plainHouse struct {
	t     *testing.T
	tab   []impl.Entry
	overs []impl.Over
	alive map[string]impl.Worker
	next  int
	now   int
}

func plainFrom(t *testing.T, h impl.House) *plainHouse {
	h = plainCopyHouse(h)
	p := &plainHouse{t: t, tab: h.Tab, overs: h.Overs, alive: map[string]impl.Worker{}, next: h.Next, now: h.Now}
	for _, w := range h.Workers {
		p.alive[w.Name] = w
	}
	return p
}

func (p *plainHouse) workers() []impl.Worker {
	var l []impl.Worker
	for _, w := range p.alive {
		l = append(l, w)
	}
	slices.SortFunc(l, func(a impl.Worker, b impl.Worker) int { return a.Pid - b.Pid })
	return l
}

func (p *plainHouse) house() impl.House {
	h := plainCopyHouse(impl.House{Tab: p.tab, Overs: p.overs, Workers: p.workers(), Next: p.next, Now: p.now})
	for _, o := range h.Overs {
		for i, k := range o.Kids {
			o.Pids[i] = p.alive[k.Name].Pid
		}
	}
	return h
}

func (p *plainHouse) begin(k impl.Kid) {
	if k.Sub < 0 {
		no := p.tab[plainPlace(p.tab, k.Mod)].No
		p.alive[k.Name] = impl.Worker{Pid: p.next, Name: k.Name, Mod: k.Mod, No: no, State: k.Init}
		p.next++
		return
	}
	p.overs[k.Sub].Down, p.overs[k.Sub].Times = false, nil
	for _, below := range p.overs[k.Sub].Kids {
		p.begin(below)
	}
}

func (p *plainHouse) end(k impl.Kid) {
	delete(p.alive, k.Name)
	if k.Sub >= 0 {
		for _, below := range p.overs[k.Sub].Kids {
			p.end(below)
		}
		p.overs[k.Sub].Down = true
	}
}

// fell: who has a Kid of this name does what is to be done, and whoever is above, as long as one gives up.
func (p *plainHouse) fell(name string) {
	delete(p.alive, name)
	for at := len(p.overs) - 1; at >= 0; at-- {
		o := p.overs[at]
		i := slices.IndexFunc(o.Kids, func(k impl.Kid) bool { return k.Name == name })
		if i < 0 {
			continue
		}
		after, ok := plainHit(o, p.now)
		if ok {
			p.overs[at] = after
			for _, kid := range plainWhom(o.Way, len(o.Kids), i) {
				p.end(o.Kids[kid])
			}
			for _, kid := range plainWhom(o.Way, len(o.Kids), i) {
				p.begin(o.Kids[kid])
			}
			return
		}
		for _, k := range o.Kids {
			p.end(k)
		}
		p.overs[at].Down = true
		// The name goes on as that of the Kid above, which stands in an overseer that is ahead.
		for _, above := range p.overs {
			for _, k := range above.Kids {
				if k.Sub == at {
					name = k.Name
				}
			}
		}
	}
}

func plainHouseNew(t *testing.T, l []impl.Entry, overs []impl.Over) (impl.House, bool) {
	if !plainTableOk(l) || !plainOversOk(overs) {
		return impl.House{}, false
	}
	p := plainFrom(t, impl.House{Tab: l, Overs: overs, Next: 1})
	for _, o := range overs {
		if o.Down || len(o.Times) > 0 {
			return impl.House{}, false
		}
		for i, k := range o.Kids {
			if o.Pids[i] != 0 || k.Sub < 0 && plainPlace(l, k.Mod) < 0 {
				return impl.House{}, false
			}
		}
	}
	p.begin(impl.Kid{Sub: 0})
	return p.house(), true
}

// deed is a call of the chapter, what the witness makes of it (of a house that is right; what it refuses counts as not done), and what else is handed in: where it stands, and whether it is as it was.
type deed struct {
	what  string
	do    func(h impl.House) (impl.House, int)
	plain func(p *plainHouse) int
	spans []span
	asWas func() bool
}

func telling(to impl.Term, x impl.Term) deed {
	kept := plainCopyTerms([]impl.Term{to, x})
	return deed{
		what:  fmt.Sprintf("Tell %+v %+v", to, x),
		do:    func(h impl.House) (impl.House, int) { return impl.Tell(h, to, x) },
		plain: func(p *plainHouse) int { return p.tell(to, x) },
		spans: slices.Concat(textSpan(to.S), termSpans(to.L), textSpan(x.S), termSpans(x.L)),
		asWas: func() bool { return slices.EqualFunc(kept, []impl.Term{to, x}, alikeTerms) },
	}
}

func (p *plainHouse) tell(to impl.Term, x impl.Term) int {
	if to.K != impl.TAtom && to.K != impl.TPid || !plainTermOk(x) {
		return impl.HouseForm
	}
	w := p.alive[to.S]
	if to.K == impl.TPid {
		w = impl.Worker{}
		for _, other := range p.alive {
			if other.Pid == to.N {
				w = other
			}
		}
	}
	if w.Pid == 0 {
		return impl.HouseNone
	}
	w, ok := plainPutWord(w, x)
	if !ok {
		return impl.HouseFull
	}
	p.alive[w.Name] = w
	return impl.HouseGood
}

func always() bool { return true }

func working(i int) deed {
	return deed{what: fmt.Sprint("Work ", i), do: func(h impl.House) (impl.House, int) { return impl.Work(h, i) }, plain: func(p *plainHouse) int { return p.work(i) }, asWas: always}
}

func (p *plainHouse) work(i int) int {
	l := p.workers()
	if p.next > 890000 {
		return impl.HouseFull
	}
	if i < 0 || i >= len(l) || len(l[i].Box) == 0 {
		return impl.HouseNone
	}
	w, sends, code := plainDoWord(p.t, p.tab, l[i])
	if code != impl.DoGood {
		p.fell(w.Name)
		return impl.HouseGood
	}
	p.alive[w.Name] = w
	for _, s := range sends {
		p.tell(s.To, s.T)
	}
	return impl.HouseGood
}

func killing(i int) deed {
	return deed{what: fmt.Sprint("Kill ", i), do: func(h impl.House) (impl.House, int) { return impl.Kill(h, i) }, plain: func(p *plainHouse) int { return p.kill(i) }, asWas: always}
}

func (p *plainHouse) kill(i int) int {
	l := p.workers()
	if p.next > 890000 {
		return impl.HouseFull
	}
	if i < 0 || i >= len(l) {
		return impl.HouseNone
	}
	p.fell(l[i].Name)
	return impl.HouseGood
}

func passing(n int) deed {
	return deed{what: fmt.Sprint("PassTime ", n), do: func(h impl.House) (impl.House, int) { return impl.PassTime(h, n) }, plain: func(p *plainHouse) int { return p.pass(n) }, asWas: always}
}

func (p *plainHouse) pass(n int) int {
	if n <= 0 || n > 10000 {
		return impl.HouseForm
	}
	if n > 100000000-p.now {
		return impl.HouseFull
	}
	p.now += n
	return impl.HouseGood
}

func loading(name string, m impl.Module) deed {
	kept := plainCopyModule(m)
	return deed{
		what:  fmt.Sprintf("Load %q %+v", name, m),
		do:    func(h impl.House) (impl.House, int) { return impl.Load(h, name, m) },
		plain: func(p *plainHouse) int { return p.load(name, m) },
		spans: append(textSpan(name), spansOf(m)...),
		asWas: func() bool { return plainSameModule(kept, m) },
	}
}

func (p *plainHouse) load(name string, m impl.Module) int {
	c, ok := plainCompile(m)
	if !ok {
		return impl.HouseForm
	}
	l, code := plainLoad(p.tab, name, c)
	if code != impl.TabGood {
		return impl.HouseFull
	}
	p.tab = l
	return impl.HouseGood
}

func purging(name string) deed {
	return deed{what: fmt.Sprintf("Purge %q", name), do: func(h impl.House) (impl.House, int) { return impl.Purge(h, name) }, plain: func(p *plainHouse) int { return p.purge(name) }, spans: textSpan(name), asWas: always}
}

func (p *plainHouse) purge(name string) int {
	if p.next > 890000 {
		return impl.HouseFull
	}
	at := plainPlace(p.tab, name)
	if at < 0 || !p.tab[at].HasOld {
		return impl.HouseNone
	}
again:
	for _, w := range p.workers() {
		if w.Mod == name && w.No != p.tab[at].No {
			p.fell(w.Name)
			goto again
		}
	}
	p.tab, _ = plainPurge(p.tab, name)
	return impl.HouseGood
}

func renewing(i int) deed {
	return deed{what: fmt.Sprint("RenewAt ", i), do: func(h impl.House) (impl.House, int) { return impl.RenewAt(h, i) }, plain: func(p *plainHouse) int { return p.renew(i) }, asWas: always}
}

func (p *plainHouse) renew(i int) int {
	l := p.workers()
	if i < 0 || i >= len(l) {
		return impl.HouseNone
	}
	w, ok := plainRenew(p.t, p.tab, l[i])
	if !ok {
		return impl.HouseFull
	}
	p.alive[w.Name] = w
	return impl.HouseGood
}

// does: what the call answers is as the witness has it, and in memory of its own; it leaves its arguments as they are. What is done leaves the house right; beside each code but HouseGood it is as it was.
func does(t *testing.T, what string, h impl.House, d deed) (impl.House, int) {
	t.Helper()
	kept, right := plainCopyHouse(h), plainHouseOk(h)
	want, wanted := kept, impl.HouseForm
	if right {
		p := plainFrom(t, h)
		if wanted = d.plain(p); wanted == impl.HouseGood {
			want = p.house()
		}
	}
	got, code := d.do(h)
	if code != wanted || !alikeHouses(got, want) {
		t.Fatalf("%s: %s of %s:\n%d, %s\nnot %d, %s", what, d.what, houseText(h), code, houseText(got), wanted, houseText(want))
	}
	if !alikeHouses(h, kept) || !d.asWas() {
		t.Fatalf("%s: %s wrote into an argument", what, d.what)
	}
	houseApart(t, what+": "+d.what, got, houseSpans(h), d.spans)
	if code != impl.HouseGood && !alikeHouses(got, h) {
		t.Fatalf("%s: %s: not the house as it was beside %d: %s", what, d.what, code, houseText(got))
	}
	if impl.HouseOk(got) != right {
		t.Fatalf("%s: %s: right %v, and behind it not so: %s", what, d.what, right, houseText(got))
	}
	return got, code
}

// doesAs: as does, with this code.
func doesAs(t *testing.T, what string, h impl.House, d deed, want int) impl.House {
	t.Helper()
	got, code := does(t, what, h, d)
	if code != want {
		t.Fatalf("%s: %s: %d, not %d: %s", what, d.what, code, want, houseText(h))
	}
	return got
}

func placeOf(t *testing.T, h impl.House, name string) int {
	t.Helper()
	i := slices.IndexFunc(h.Workers, func(w impl.Worker) bool { return w.Name == name })
	if i < 0 {
		t.Fatalf("%s is not in %s", name, whoText(h))
	}
	return i
}

// playsOut: of each word, `+` and a number passes time, a name kills; all of them are done.
func playsOut(t *testing.T, h impl.House, text string) impl.House {
	t.Helper()
	for _, word := range strings.Fields(text) {
		if n, err := strconv.Atoi(word); err == nil {
			h = doesAs(t, text, h, passing(n), impl.HouseGood)
			continue
		}
		h = kills(t, text, h, placeOf(t, h, word))
	}
	return h
}

// kills: promise 15, by what is there ahead and behind: whoever fell is gone; those that were not to go with it are as they were; whoever is new begins anew.
func kills(t *testing.T, what string, h impl.House, i int) impl.House {
	t.Helper()
	got := doesAs(t, what, h, killing(i), impl.HouseGood)
	fallen := h.Workers[i]
	fresh, began := h.Next, map[string]bool{}
	for _, w := range got.Workers {
		began[w.Name] = w.Pid >= h.Next
		if w.Pid == fallen.Pid {
			t.Fatalf("%s: who fell is still there: %s", what, whoText(got))
		}
		at := slices.IndexFunc(h.Workers, func(old impl.Worker) bool { return old.Pid == w.Pid })
		if at >= 0 && !alikeWorkers(w, h.Workers[at]) {
			t.Fatalf("%s: another worker than it was: %+v", what, w)
		}
		if at < 0 && (w.Pid != fresh || len(w.Box) > 0 || w.No != impl.NewestOf(got.Tab, w.Mod)) {
			t.Fatalf("%s: no new worker: %+v, %d", what, w, fresh)
		}
		if at < 0 {
			fresh++
		}
	}
	if got.Next != fresh {
		t.Fatalf("%s: the next is %d, not %d", what, got.Next, fresh)
	}
	for at, o := range h.Overs {
		place := slices.Index(o.Pids, fallen.Pid)
		if place < 0 {
			continue
		}
		_, may := impl.Hit(o, h.Now)
		for kid, k := range o.Kids {
			goes := slices.Contains(impl.Whom(o.Way, len(o.Kids), place), kid)
			if may && k.Sub < 0 && began[k.Name] != goes {
				t.Fatalf("%s: %s goes with %s: %v, not %v", what, k.Name, fallen.Name, began[k.Name], goes)
			}
			if !may && !got.Overs[at].Down && k.Sub < 0 && !began[k.Name] {
				t.Fatalf("%s: its overseer gave up, and %s is there: %s", what, k.Name, whoText(got))
			}
		}
	}
	return got
}

// houseIs: what HouseOk answers is this, and as the witness has it; it leaves its argument as it is.
func houseIs(t *testing.T, what string, h impl.House, want bool) {
	t.Helper()
	kept := plainCopyHouse(h)
	if got, plain := impl.HouseOk(h), plainHouseOk(h); got != want || plain != want {
		t.Errorf("%s: %v, the witness %v, not %v: %s", what, got, plain, want, houseText(h))
	}
	if !alikeHouses(h, kept) {
		t.Errorf("%s: HouseOk wrote into its argument", what)
	}
}

// housed: what HouseNew answers is as the witness has it, and in memory of its own; it leaves its arguments as they are.
func housed(t *testing.T, what string, l []impl.Entry, overs []impl.Over) (impl.House, bool) {
	t.Helper()
	keptTable, keptOvers := plainCopyTable(l), plainCopyOvers(overs)
	want, wanted := plainHouseNew(t, l, overs)
	got, ok := impl.HouseNew(l, overs)
	if ok != wanted || !alikeHouses(got, want) {
		t.Fatalf("%s: HouseNew: %v, %s, not %v, %s", what, ok, houseText(got), wanted, houseText(want))
	}
	if !sameTable(l, keptTable) || !slices.EqualFunc(overs, keptOvers, alikeOvers) {
		t.Fatalf("%s: HouseNew wrote into an argument", what)
	}
	houseApart(t, what, got, houseSpans(impl.House{Tab: l, Overs: overs}))
	if impl.HouseOk(got) != ok {
		t.Fatalf("%s: %v, and not so: %s", what, ok, houseText(got))
	}
	return got, ok
}

// fullHouse: of all that a house may have: two modules, one with an Old that workers are of, overseers three deep, times, and words that wait. Now is 20.
func fullHouse(t *testing.T) impl.House {
	t.Helper()
	h := houseFrom(t, "rest 3 a,s:1,b; one 2 c,u:2; all 2 d,e")
	h.Tab = append([]impl.Entry{entryOf("j", 1, codeFor(t, echo))}, h.Tab...)
	h.Overs[2].Kids[1].Mod, h.Workers[placeOf(t, h, "e")].Mod = "j", "j"
	m := moduleOf(t, obeys)
	h = playsOut(t, h, "+20 a c b")
	h = doesAs(t, "full", h, loading("k", m), impl.HouseGood)
	h = playsOut(t, h, "c")
	for i := range h.Workers {
		for n := range i {
			h = doesAs(t, "full", h, telling(pidTerm(h.Workers[i].Pid), tupleTerm(atomTerm("come"), intTerm(n))), impl.HouseGood)
		}
	}
	if len(h.Workers) != 5 || h.Workers[0].No != 1 || h.Workers[4].No != 2 {
		t.Fatal(houseText(h))
	}
	return h
}

// downHouse: likewise, all Down.
func downHouse(t *testing.T) impl.House {
	t.Helper()
	h := fullHouse(t)
	for len(h.Workers) > 0 {
		h = playsOut(t, h, h.Workers[0].Name)
	}
	return h
}

// bent: a full house with each single field made another one, and whether it is right then.
func bent(t *testing.T, each func(what string, h impl.House, right bool)) {
	t.Helper()
	full, down := fullHouse(t), downHouse(t)
	with := func(what string, right bool, change func(h *impl.House)) {
		h := plainCopyHouse(full)
		if strings.HasPrefix(what, "down: ") {
			h = plainCopyHouse(down)
		}
		change(&h)
		each(what, h, right)
	}
	for _, down := range []string{"up: ", "down: "} {
		with(down+"as it is", true, func(h *impl.House) {})
		bentTable(down, with)
		bentOvers(down, with)
		for _, n := range []int{math.MinInt, -1, 0, 900001, 1<<32 + 1000, math.MaxInt} {
			with(fmt.Sprint(down, "Next ", n), false, func(h *impl.House) { h.Next = n })
		}
		with(down+"Next 900000", true, func(h *impl.House) { h.Next = 900000 })
		for _, n := range []int{math.MinInt, -1, 0, 19, 100000001, 1<<32 + 20, math.MaxInt} {
			with(fmt.Sprint(down, "Now ", n), false, func(h *impl.House) { h.Now = n })
		}
		with(down+"Now 10^8", true, func(h *impl.House) { h.Now = 100000000 })
		with(down+"a worker of no Kid", false, func(h *impl.House) {
			h.Workers = append(h.Workers, impl.Worker{Pid: h.Next, Name: "z", Mod: "k", No: 2, State: intTerm(1)})
			h.Next++
		})
	}
	bentWorkers(with)
	for _, n := range []int{1, 2} {
		with(fmt.Sprint("down: Next ", n), true, func(h *impl.House) { h.Next = n })
	}
	// All is right but that one is Down, or one is up, that may not be so.
	for _, from := range []int{1, 2} {
		with(fmt.Sprint("up: those from ", from, " on are Down"), false, func(h *impl.House) { stopPlainly(h, from) })
		with(fmt.Sprint("down: those from ", from, " on are up"), false, func(h *impl.House) {
			up := plainCopyHouse(full)
			for at := range from {
				keep := h.Overs[at]
				h.Overs[at] = up.Overs[at]
				up.Overs[at] = keep
			}
			*h = up
			h.Workers = slices.DeleteFunc(h.Workers, func(w impl.Worker) bool {
				return !slices.ContainsFunc(h.Overs, func(o impl.Over) bool { return slices.Contains(o.Pids, w.Pid) })
			})
		})
	}
	with("up: all are Down", true, func(h *impl.House) { stopPlainly(h, 0) })
	with("down: a Kid with a Pid", false, func(h *impl.House) { h.Overs[2].Pids[0] = 1 })
	with("down: a Kid with a Pid and a worker", false, func(h *impl.House) {
		h.Overs[2].Pids[0] = h.Next
		h.Workers = append(h.Workers, impl.Worker{Pid: h.Next, Name: "d", Mod: "k", No: 2, State: intTerm(1)})
		h.Next++
	})
}

// stopPlainly: the overseers from this one on are Down, and their workers gone.
func stopPlainly(h *impl.House, from int) {
	for at := from; at < len(h.Overs); at++ {
		for i, pid := range h.Overs[at].Pids {
			h.Workers = slices.DeleteFunc(h.Workers, func(w impl.Worker) bool { return w.Pid == pid })
			h.Overs[at].Pids[i] = 0
		}
		h.Overs[at].Down = true
	}
}

type bending func(what string, right bool, change func(h *impl.House))

func bentTable(down string, with bending) {
	with(down+"no table", false, func(h *impl.House) { h.Tab = nil })
	with(down+"a table without j", false, func(h *impl.House) { h.Tab = h.Tab[1:] })
	with(down+"a table without k", false, func(h *impl.House) { h.Tab = h.Tab[:1] })
	with(down+"a table in the wrong order", false, func(h *impl.House) { slices.Reverse(h.Tab) })
	with(down+"an entry more", true, func(h *impl.House) { h.Tab = append(h.Tab, entryOf("z", 9, impl.Code{})) })
	with(down+"an entry twice", false, func(h *impl.House) { h.Tab = append(h.Tab, h.Tab[1]) })
	with(down+"wrong code", false, func(h *impl.House) { h.Tab[1].Cur = wrongCodes()[0] })
	with(down+"other code", true, func(h *impl.House) { h.Tab[1].Cur = impl.Code{} })
	with(down+"wrong code as Old", false, func(h *impl.House) { h.Tab[1].Old = wrongCodes()[0] })
	with(down+"an Old without HasOld", false, func(h *impl.House) { h.Tab[1].HasOld = false })
	with(down+"the number 0", false, func(h *impl.House) { h.Tab[0].No = 0 })
}

func bentOvers(down string, with bending) {
	for at := range 3 {
		on := fmt.Sprint(down, "overseer ", at, ", ")
		over := func(what string, right bool, change func(o *impl.Over)) {
			with(on+what, right, func(h *impl.House) { change(&h.Overs[at]) })
		}
		for _, n := range []int{math.MinInt, 0, 4, math.MaxInt} {
			over(fmt.Sprint("the Way ", n), false, func(o *impl.Over) { o.Way = n })
		}
		for n := 1; n <= 3; n++ {
			over(fmt.Sprint("the Way ", n), true, func(o *impl.Over) { o.Way = n })
		}
		for _, n := range []int{-1, 21, math.MaxInt} {
			over(fmt.Sprint("MaxR ", n), false, func(o *impl.Over) { o.MaxR = n })
		}
		over("MaxR 20", true, func(o *impl.Over) { o.MaxR = 20 })
		for _, n := range []int{math.MinInt, 0, 1001} {
			over(fmt.Sprint("MaxT ", n), false, func(o *impl.Over) { o.MaxT = n })
		}
		over("MaxT 1000", true, func(o *impl.Over) { o.MaxT = 1000 })
		over("no Kids", false, func(o *impl.Over) { o.Kids, o.Pids = nil, nil })
		over("a Kid fewer", down == "down: ", func(o *impl.Over) { o.Kids, o.Pids = o.Kids[1:], o.Pids[1:] })
		over("a Pid fewer", false, func(o *impl.Over) { o.Pids = o.Pids[1:] })
		over("a Pid more", false, func(o *impl.Over) { o.Pids = append(o.Pids, 0) })
		over("a Pid of -1", false, func(o *impl.Over) { o.Pids[0] = -1 })
		over("no atom as a Name", false, func(o *impl.Over) { o.Kids[1].Name = "A" })
		over("the first Kid of another Name", down == "down: ", func(o *impl.Over) { o.Kids[0].Name = "z" })
		over("two of one Name", false, func(o *impl.Over) { o.Kids[0].Name = o.Kids[1].Name })
		over("a Mod without code", false, func(o *impl.Over) { o.Kids[0].Mod = "z" })
		over("another Mod", down == "down: ", func(o *impl.Over) { o.Kids[0].Mod = "j" })
		over("no Mod", false, func(o *impl.Over) { o.Kids[0].Mod = "" })
		over("another Init", true, func(o *impl.Over) { o.Kids[0].Init = atomTerm("other") })
		over("a wrong Init", false, func(o *impl.Over) { o.Kids[0].Init = impl.Term{} })
		over("a Sub of a worker", false, func(o *impl.Over) { o.Kids[0].Sub = 2 })
		over("Down, or not", false, func(o *impl.Over) { o.Down = !o.Down })
		over("no Times", true, func(o *impl.Over) { o.Times = nil })
		over("Times at Now", true, func(o *impl.Over) { o.Times = []int{20, 20} })
		over("Times one later", false, func(o *impl.Over) { o.Times = []int{20, 21} })
		over("a Time one later", false, func(o *impl.Over) { o.Times = []int{21} })
		over("a Time far later", false, func(o *impl.Over) { o.Times = []int{0, math.MaxInt} })
		over("Times that fall", false, func(o *impl.Over) { o.Times = []int{20, 19} })
		over("Times ahead of all time", true, func(o *impl.Over) { o.Times = []int{math.MinInt, -1} })
		over("a time more than may be", false, func(o *impl.Over) { o.Times = slices.Repeat([]int{1}, o.MaxR+1) })
	}
	for at := range 2 {
		with(fmt.Sprint(down, "overseer ", at, ", a Pid beside a Sub"), false, func(h *impl.House) {
			o := &h.Overs[at]
			sub := slices.IndexFunc(o.Kids, func(k impl.Kid) bool { return k.Sub >= 0 })
			o.Pids[sub] = 1
		})
		with(fmt.Sprint(down, "overseer ", at, ", a Pid beside a Sub, and a worker"), false, func(h *impl.House) {
			o := &h.Overs[at]
			sub := slices.IndexFunc(o.Kids, func(k impl.Kid) bool { return k.Sub >= 0 })
			o.Pids[sub] = h.Next
			h.Workers = append(h.Workers, impl.Worker{Pid: h.Next, Name: o.Kids[sub].Name, Mod: "k", No: 2, State: intTerm(1)})
			h.Next++
		})
		with(fmt.Sprint(down, "overseer ", at, ", no Sub any more"), false, func(h *impl.House) {
			o := &h.Overs[at]
			sub := slices.IndexFunc(o.Kids, func(k impl.Kid) bool { return k.Sub >= 0 })
			o.Kids[sub] = workKid(o.Kids[sub].Name)
		})
	}
	with(down+"no overseers", false, func(h *impl.House) { h.Overs = nil })
	with(down+"an overseer fewer", false, func(h *impl.House) { h.Overs = h.Overs[:2] })
	with(down+"an overseer more", false, func(h *impl.House) { h.Overs = append(h.Overs, overOf(1, workKid("z"))) })
	with(down+"overseers the other way round", false, func(h *impl.House) { slices.Reverse(h.Overs) })
	with(down+"the lower two Down, or not", false, func(h *impl.House) {
		h.Overs[1].Down, h.Overs[2].Down = !h.Overs[1].Down, !h.Overs[2].Down
	})
}

func bentWorkers(with bending) {
	with("up: no workers", false, func(h *impl.House) { h.Workers = nil })
	with("up: Next is the greatest Pid", false, func(h *impl.House) { h.Next = h.Workers[4].Pid })
	with("up: Next is just above the greatest Pid", true, func(h *impl.House) { h.Next = h.Workers[4].Pid + 1 })
	for at := range 5 {
		worker := func(what string, right bool, change func(w *impl.Worker)) {
			with(fmt.Sprint("up: worker ", at, ", ", what), right, func(h *impl.House) { change(&h.Workers[at]) })
		}
		for _, n := range []int{math.MinInt, -1, 0, 1000, 999999, 1000001, math.MaxInt} {
			worker(fmt.Sprint("the Pid ", n), false, func(w *impl.Worker) { w.Pid = n })
		}
		for _, s := range []string{"", "A", "z", "s"} {
			worker(fmt.Sprintf("the Name %q", s), false, func(w *impl.Worker) { w.Name = s })
			worker(fmt.Sprintf("the Mod %q", s), false, func(w *impl.Worker) { w.Mod = s })
		}
		for _, n := range []int{math.MinInt, -1, 0, 3, 10001, math.MaxInt} {
			worker(fmt.Sprint("the No ", n), false, func(w *impl.Worker) { w.No = n })
		}
		worker("a wrong State", false, func(w *impl.Worker) { w.State = impl.Term{} })
		worker("another State", true, func(w *impl.Worker) { w.State = countedTerm(300) })
		worker("a wrong word", false, func(w *impl.Worker) { w.Box = []impl.Term{intTerm(1), {}} })
		worker("20 words", true, func(w *impl.Worker) { w.Box = numTerms(20) })
		worker("21 words", false, func(w *impl.Worker) { w.Box = numTerms(21) })
		with(fmt.Sprint("up: without worker ", at), false, func(h *impl.House) { h.Workers = slices.Delete(h.Workers, at, at+1) })
		with(fmt.Sprint("up: worker ", at, " twice"), false, func(h *impl.House) { h.Workers = slices.Insert(h.Workers, at, h.Workers[at]) })
		with(fmt.Sprint("up: worker ", at, " at Next"), false, func(h *impl.House) {
			for _, o := range h.Overs {
				if i := slices.Index(o.Pids, h.Workers[at].Pid); i >= 0 {
					o.Pids[i] = h.Next
				}
			}
			h.Workers[at].Pid = h.Next
			slices.SortFunc(h.Workers, func(a impl.Worker, b impl.Worker) int { return a.Pid - b.Pid })
		})
		for other := range at {
			with(fmt.Sprint("up: workers ", other, " and ", at, " in the other's place"), false, func(h *impl.House) { h.Workers[at], h.Workers[other] = h.Workers[other], h.Workers[at] })
			with(fmt.Sprint("up: the Names of ", other, " and ", at, " in the other's place"), false, func(h *impl.House) {
				h.Workers[at].Name, h.Workers[other].Name = h.Workers[other].Name, h.Workers[at].Name
			})
			with(fmt.Sprint("up: workers ", other, " and ", at, " of one Name"), false, func(h *impl.House) { h.Workers[at].Name = h.Workers[other].Name })
		}
	}
	for at := range 3 {
		for i := range 2 {
			for _, pid := range []int{0, 1, 1000, math.MaxInt} {
				with(fmt.Sprint("up: overseer ", at, ", the Pid ", pid, " at ", i), false, func(h *impl.House) {
					if h.Overs[at].Pids[i] == pid {
						pid = 2
					}
					h.Overs[at].Pids[i] = pid
				})
			}
			for worker := range 5 {
				with(fmt.Sprint("up: overseer ", at, ", the Pid of worker ", worker, " at ", i), false, func(h *impl.House) {
					pid := h.Workers[worker].Pid
					if h.Overs[at].Pids[i] == pid {
						pid = 0
					}
					h.Overs[at].Pids[i] = pid
				})
			}
		}
	}
}

func TestHouseConstants(t *testing.T) {
	if impl.HouseGood != 0 || impl.HouseForm != 1 || impl.HouseNone != 2 || impl.HouseFull != 3 {
		t.Error(impl.HouseGood, impl.HouseForm, impl.HouseNone, impl.HouseFull)
	}
}

func TestHouseOk(t *testing.T) {
	houseIs(t, "the zero one", impl.House{}, false)
	houseIs(t, "the zero one with a Next", impl.House{Next: 1}, false)
	many := 0
	bent(t, func(what string, h impl.House, right bool) {
		houseIs(t, what, h, right)
		many++
	})
	if many < 500 {
		t.Error("too few to tell anything:", many)
	}
	h := houseFrom(t, "one 2 a")
	houseIs(t, "a new one", h, true)
	for n := -2; n < 5; n++ {
		h.Next = n
		houseIs(t, fmt.Sprint("Next ", n), h, n >= 2)
		h.Next, h.Now = 2, n
		houseIs(t, fmt.Sprint("Now ", n), h, n >= 0)
		h.Next, h.Now = 899998+n, 99999998+n
		houseIs(t, fmt.Sprint("Next and Now ", h.Next, h.Now), h, n <= 2)
		h.Now = 0
	}
}

// TestHouseOkByHowMany: as many workers as there may be Kids, and so many more that 60 are there, and 61.
func TestHouseOkByHowMany(t *testing.T) {
	var text []string
	for at := range 8 {
		var kids []string
		for i := range 8 {
			kids = append(kids, fmt.Sprintf("k%d%d", at, i))
		}
		if at < 7 {
			kids[at] = fmt.Sprintf("s%d:%d", at, at+1)
		}
		text = append(text, "one 2 "+strings.Join(kids, ","))
	}
	h := houseFrom(t, strings.Join(text, ";"))
	houseIs(t, "57 workers", h, true)
	if len(h.Workers) != 57 || h.Next != 58 {
		t.Error(len(h.Workers), h.Next)
	}
	for len(h.Workers) < 65 {
		h.Workers = append(h.Workers, impl.Worker{Pid: h.Next, Name: "z", Mod: "k", No: 1, State: intTerm(1)})
		h.Next++
		houseIs(t, fmt.Sprint(len(h.Workers), " workers"), h, false)
		doesAs(t, "too many", h, killing(0), impl.HouseForm)
	}
}

// TestHouseOkOfTwoVersions: a worker may be of the newest code and of the old, where that is there.
func TestHouseOkOfTwoVersions(t *testing.T) {
	for no := 1; no < 8; no++ {
		for _, old := range []bool{false, true} {
			h := houseFrom(t, "one 2 a,b")
			h.Tab = []impl.Entry{entryOf("k", 5, impl.Code{})}
			h.Tab[0].HasOld = old
			h.Workers[0].No, h.Workers[1].No = 5, no
			houseIs(t, fmt.Sprint("the number ", no, " with an Old: ", old), h, no == 5 || no == 4 && old)
		}
	}
}

func TestHouseNew(t *testing.T) {
	for text, want := range map[string]string{
		"one 2 a": "a1 | -", "rest 0 a,b,c": "a1 b2 c3 | -", "one 2 c,b,a": "c1 b2 a3 | -",
		// A Sub is started at its place among the Kids.
		"one 2 a,s:1,b; all 1 c,d": "a1 c2 d3 b4 | - | -", "one 2 s:1,a; all 1 b": "b1 a2 | - | -", "one 2 a,s:1; all 1 b": "a1 b2 | - | -", "one 2 s:1; one 2 a": "a1 | - | -",
		"one 2 s:2,u:1; one 2 a; one 2 b": "b1 a2 | - | - | -", "one 2 a,s:2,u:1,b; one 2 c,d; one 2 e": "a1 e2 c3 d4 b5 | - | - | -",
		"one 2 a,s:1,b; one 2 c,u:2,d; one 2 e,f": "a1 c2 e3 f4 d5 b6 | - | - | -", "one 2 s:1,u:3; one 2 v:2,a; one 2 b; one 2 c,d": "b1 a2 c3 d4 | - | - | - | -",
		"one 2 s1:1; one 2 s2:2; one 2 s3:3; one 2 s4:4; one 2 s5:5; one 2 s6:6; one 2 s7:7; one 2 a": "a1 | - | - | - | - | - | - | - | -", "one 2 s1:1,a; one 2 b,s2:2; one 2 s3:3,c; one 2 d": "b1 d2 c3 a4 | - | - | - | -",
	} {
		h, ok := housed(t, text, tableFor(t, obeys), oversFrom(t, text))
		if !ok || whoText(h) != want || h.Now != 0 || h.Next != len(h.Workers)+1 {
			t.Errorf("%s: %v, %s, not %s", text, ok, houseText(h), want)
		}
	}
	// Each is of the newest code, begins with its Init, and nothing waits.
	l := []impl.Entry{entryOf("j", 1, codeFor(t, echo)), entryWithOld("k", 7, codeFor(t, obeys), impl.Code{})}
	overs := oversFrom(t, "one 2 a,s:1,b; rest 20 c")
	overs[0].Kids[2].Mod, overs[0].Kids[2].Init, overs[1].Kids[0].Init = "j", countedTerm(300), tupleTerm(atomTerm("first"))
	h, ok := housed(t, "two modules", l, overs)
	if !ok || whoText(h) != "a1 c2 b3 | - | -" || h.Workers[0].No != 7 || h.Workers[1].No != 7 || h.Workers[2].No != 1 || !alikeTerms(h.Workers[1].State, overs[1].Kids[0].Init) || !alikeTerms(h.Workers[2].State, countedTerm(300)) || h.Workers[2].Mod != "j" {
		t.Error(ok, houseText(h))
	}
	for _, text := range []string{"one 2 a", "one 2 a,s:1; one 2 b"} {
		for _, table := range [][]impl.Entry{tableFor(t, obeys), {entryOf("k", 10000, impl.Code{})}, append(tableOf(0), entryOf("a", 1, impl.Code{}), entryWithOld("k", 2, impl.Code{}, numCode(1)))} {
			if _, ok := housed(t, text, table, oversFrom(t, text)); !ok {
				t.Error(text, tableText(table))
			}
		}
	}
}

func TestHouseNewRefused(t *testing.T) {
	l := tableFor(t, obeys)
	for what, wrong := range notTables() {
		for at := range wrong {
			if wrong[at].Name != "m00" {
				wrong[at].Name = strings.ReplaceAll(wrong[at].Name, "a", "k")
			}
		}
		for _, table := range [][]impl.Entry{wrong, append(slices.Clone(wrong), l...), append(slices.Clone(l), wrong...)} {
			if plainTableOk(table) {
				continue
			}
			if _, ok := housed(t, what, table, oversFrom(t, "one 2 a")); ok {
				t.Error(what, "is a table")
			}
		}
	}
	for what, table := range map[string][]impl.Entry{"no table": nil, "no code of that Mod": {entryOf("kk", 1, impl.Code{})}, "ten others": tableOf(10)} {
		if _, ok := housed(t, what, table, oversFrom(t, "one 2 a")); ok {
			t.Error(what)
		}
	}
	for what, o := range notOvers() {
		o.Pids = make([]int, len(o.Pids))
		o.Times = nil
		if impl.OverOk(o) {
			continue
		}
		for _, overs := range [][]impl.Over{{o}, {o, overOf(1, workKid("z"))}, {overOf(1, subKid("z", 1)), o}} {
			if _, ok := housed(t, what, l, overs); ok {
				t.Error(what)
			}
		}
	}
	for _, text := range []string{"one 2 a,a", "one 2 s:1", "one 2 s:0", "one 2 a; one 2 b", "one 2 s:1; one 2 u:0", "one 2 s:1,u:1; one 2 a", "one 2 s:1; one 2 a,s", "one 2 s:2; one 2 a; one 2 b"} {
		if _, ok := housed(t, text, l, oversFrom(t, text)); ok {
			t.Error(text)
		}
	}
	if _, ok := housed(t, "no overseers", l, nil); ok {
		t.Error("no overseers")
	}
	for at := range 3 {
		for what, change := range map[string]func(o *impl.Over){
			"Down": func(o *impl.Over) { o.Down = true }, "a time": func(o *impl.Over) { o.Times = []int{0} }, "a time ahead of all": func(o *impl.Over) { o.Times = []int{-5} }, "times": func(o *impl.Over) { o.Times = []int{0, 0} }, "a time later": func(o *impl.Over) { o.Times = []int{5} },
			"a Pid": func(o *impl.Over) { o.Pids[0] = 1 }, "the last Pid": func(o *impl.Over) { o.Pids[1] = 4 }, "a great Pid": func(o *impl.Over) { o.Pids[1] = math.MaxInt }, "a Pid fewer": func(o *impl.Over) { o.Pids = o.Pids[:1] }, "a Pid more": func(o *impl.Over) { o.Pids = append(o.Pids, 0) }, "no Pids": func(o *impl.Over) { o.Pids = nil },
			"another Mod": func(o *impl.Over) { o.Kids[0].Mod = "z" },
		} {
			overs := oversFrom(t, "one 2 a,s:1; one 2 b,u:2; one 2 c,d")
			change(&overs[at])
			if _, ok := housed(t, what, l, overs); ok {
				t.Error(what, "at", at)
			}
		}
	}
}

func boxesText(h impl.House) string {
	var parts []string
	for _, w := range h.Workers {
		var box []string
		for _, x := range w.Box {
			box = append(box, impl.TermText(x))
		}
		parts = append(parts, w.Name+"("+strings.Join(box, " ")+")")
	}
	return strings.Join(parts, " ")
}

func TestTell(t *testing.T) {
	h := houseFrom(t, "one 2 a,s:1,b; all 2 c")
	h = kills(t, "c", h, placeOf(t, h, "c"))
	if whoText(h) != "a1 b3 c4 | - | 0" {
		t.Fatal(whoText(h))
	}
	for _, x := range []struct {
		to   impl.Term
		code int
		want string
	}{
		{atomTerm("a"), impl.HouseGood, "a(word) b() c()"}, {atomTerm("b"), impl.HouseGood, "a() b(word) c()"}, {atomTerm("c"), impl.HouseGood, "a() b() c(word)"}, {pidTerm(1), impl.HouseGood, "a(word) b() c()"}, {pidTerm(3), impl.HouseGood, "a() b(word) c()"}, {pidTerm(4), impl.HouseGood, "a() b() c(word)"},
		// Nobody: of a Name or a Pid that there was, of a Sub, and of what is no name or number of anybody.
		{pidTerm(0), impl.HouseNone, ""}, {pidTerm(2), impl.HouseNone, ""}, {pidTerm(5), impl.HouseNone, ""}, {pidTerm(1000000), impl.HouseNone, ""}, {atomTerm("s"), impl.HouseNone, ""}, {atomTerm("k"), impl.HouseNone, ""}, {atomTerm("d"), impl.HouseNone, ""}, {atomTerm("aa"), impl.HouseNone, ""},
		{pidTerm(-1), impl.HouseNone, ""}, {pidTerm(1000001), impl.HouseNone, ""}, {pidTerm(math.MinInt), impl.HouseNone, ""}, {pidTerm(math.MaxInt), impl.HouseNone, ""}, {pidTerm(1<<32 + 1), impl.HouseNone, ""}, {atomTerm(""), impl.HouseNone, ""}, {atomTerm("A"), impl.HouseNone, ""}, {atomTerm("a\x00"), impl.HouseNone, ""},
		// Another kind.
		{intTerm(1), impl.HouseForm, ""}, {intTerm(3), impl.HouseForm, ""}, {tupleTerm(atomTerm("a")), impl.HouseForm, ""}, {listTerm(atomTerm("a")), impl.HouseForm, ""}, {tupleTerm(), impl.HouseForm, ""}, {listTerm(), impl.HouseForm, ""}, {impl.Term{}, impl.HouseForm, ""}, {impl.Term{N: 1, S: "a"}, impl.HouseForm, ""}, {impl.Term{K: 6, N: 1, S: "a"}, impl.HouseForm, ""}, {impl.Term{K: -1, N: 1, S: "a"}, impl.HouseForm, ""}, {impl.Term{K: 256 + impl.TAtom, S: "a"}, impl.HouseForm, ""}, {impl.Term{K: math.MaxInt, S: "a"}, impl.HouseForm, ""},
	} {
		got := doesAs(t, "to", h, telling(x.to, atomTerm("word")), x.code)
		if x.want != "" && boxesText(got) != x.want {
			t.Errorf("to %+v: %s, not %s", x.to, boxesText(got), x.want)
		}
		// What is told has no part in whom it is told to, but that it must be right.
		for _, word := range append(wideAndDeep(), pidTerm(1), atomTerm("a")) {
			doesAs(t, "a right word", h, telling(x.to, word), x.code)
		}
		for _, word := range wrongTerms() {
			doesAs(t, "a wrong word", h, telling(x.to, word), impl.HouseForm)
		}
	}
	// A Name that two have there is in no house that is right.
	two := plainCopyHouse(h)
	two.Workers[1].Name, two.Overs[0].Kids[2].Name = "a", "a"
	doesAs(t, "two of one Name", two, telling(atomTerm("a"), intTerm(1)), impl.HouseForm)
	two.Overs[0].Kids[2].Name = "b"
	doesAs(t, "two of one Name", two, telling(atomTerm("a"), intTerm(1)), impl.HouseForm)
}

// TestTellByKind: as in SendsOf, a TAtom or TPid is told by its kind.
func TestTellByKind(t *testing.T) {
	h := houseFrom(t, "one 2 a,b")
	for _, to := range []impl.Term{{K: impl.TAtom, S: "b", N: 7}, {K: impl.TAtom, S: "b", L: []impl.Term{intTerm(1)}}, {K: impl.TPid, N: 2, S: "a"}, {K: impl.TPid, N: 2, L: []impl.Term{{}}}} {
		if got := doesAs(t, "odd fields", h, telling(to, intTerm(7)), impl.HouseGood); boxesText(got) != "a() b(7)" {
			t.Errorf("%+v: %s", to, boxesText(got))
		}
	}
}

func TestTellByRoom(t *testing.T) {
	h := houseFrom(t, "one 2 a,b,c")
	for many := range 24 {
		want := impl.HouseGood
		if many >= 20 {
			want = impl.HouseFull
		}
		to := []impl.Term{atomTerm("b"), pidTerm(2)}[many%2]
		h = doesAs(t, fmt.Sprint("behind ", many), h, telling(to, intTerm(many)), want)
		if len(h.Workers[0].Box) != 0 || len(h.Workers[2].Box) != 0 || len(h.Workers[1].Box) != min(many+1, 20) {
			t.Fatal(many, boxesText(h))
		}
	}
	for i, x := range h.Workers[1].Box {
		if x.N != i {
			t.Error("at", i, "waits", x)
		}
	}
	// What is wrong is named ahead of what has no room, and so is what is not there.
	doesAs(t, "no room", h, telling(atomTerm("b"), impl.Term{}), impl.HouseForm)
	doesAs(t, "no room", h, telling(intTerm(2), intTerm(1)), impl.HouseForm)
	doesAs(t, "no room elsewhere", h, telling(atomTerm("d"), intTerm(1)), impl.HouseNone)
	doesAs(t, "no room elsewhere", h, telling(atomTerm("d"), impl.Term{}), impl.HouseForm)
	doesAs(t, "room", h, telling(atomTerm("c"), intTerm(1)), impl.HouseGood)
}

// tellsAll: these words, each behind the name to which it is told and `<`; all of them find room.
func tellsAll(t *testing.T, h impl.House, words ...string) impl.House {
	t.Helper()
	for _, text := range words {
		name, word, _ := strings.Cut(text, "<")
		h = doesAs(t, text, h, telling(atomTerm(name), termFrom(t, word)), impl.HouseGood)
	}
	return h
}

func TestWork(t *testing.T) {
	h := houseFrom(t, "one 2 a,b,c")
	for _, i := range []int{math.MinInt, -1, 0, 1, 2, 3, 4, 60, math.MaxInt} {
		doesAs(t, "nothing waits", h, working(i), impl.HouseNone)
	}
	for _, x := range []struct{ word, state, boxes, who string }{
		{"{add, 5}", "5", "a(7) b(8) c(9)", "a1 b2 c3 | -"}, {"{say, []}", "0", "a(7) b(8) c(9)", "a1 b2 c3 | -"}, {"{come, {ok, {x}}}", "{x}", "a(7) b(8) c(9)", "a1 b2 c3 | -"},
		// To itself, to another by Name and by Pid, to the same one again, to none, and to what is no name.
		{"{say, [{b, x}]}", "0", "a(7) b(8,x) c(9)", "a1 b2 c3 | -"}, {"{say, [{pid(2), x}]}", "0", "a(7) b(8,x) c(9)", "a1 b2 c3 | -"}, {"{say, [{a, x}]}", "0", "a(7,x) b(8) c(9)", "a1 b2 c3 | -"}, {"{say, [{c, x}, {b, y}, {c, {z}}, {a, u}]}", "0", "a(7,u) b(8,y) c(9,x,{z})", "a1 b2 c3 | -"},
		{"{say, [{d, x}]}", "0", "a(7) b(8) c(9)", "a1 b2 c3 | -"}, {"{say, [{pid(0), x}, {pid(4), y}, {pid(1000000), z}]}", "0", "a(7) b(8) c(9)", "a1 b2 c3 | -"}, {"{say, [{d, x}, {a, y}, {pid(9), z}, {pid(3), u}]}", "0", "a(7,y) b(8) c(9,u)", "a1 b2 c3 | -"},
		{"{come, {ok, 3, [{a, 4}, {a, 5}]}}", "3", "a(7,4,5) b(8) c(9)", "a1 b2 c3 | -"},
		// Whoever stops, and whoever falls, is started anew, and nothing waits for it any more; nor is anything sent.
		{"stop", "0", "a(7) c(9) b()", "a1 c3 b4 | 0"}, {"{come, {stop, 1}}", "0", "a(7) c(9) b()", "a1 c3 b4 | 0"}, {"other", "0", "a(7) c(9) b()", "a1 c3 b4 | 0"}, {"{add, x}", "0", "a(7) c(9) b()", "a1 c3 b4 | 0"}, {"{say, {a, x}}", "0", "a(7) c(9) b()", "a1 c3 b4 | 0"}, {"{say, [{a, x}, {1, y}]}", "0", "a(7) c(9) b()", "a1 c3 b4 | 0"}, {"{come, {stop, [{a, x}]}}", "0", "a(7) c(9) b()", "a1 c3 b4 | 0"}, {"{come, other}", "0", "a(7) c(9) b()", "a1 c3 b4 | 0"}, {"{come, {stop, 1, [{a, x}]}}", "0", "a(7) c(9) b()", "a1 c3 b4 | 0"},
	} {
		told := tellsAll(t, h, "b<"+x.word, "a<7", "b<8", "c<9")
		got := doesAs(t, x.word, told, working(1), impl.HouseGood)
		state := got.Workers[placeOf(t, got, "b")].State
		if boxes := strings.ReplaceAll(x.boxes, ",", " "); boxesText(got) != boxes || whoText(got) != x.who || impl.TermText(state) != x.state {
			t.Errorf("%s: %s, %s, %s", x.word, boxesText(got), whoText(got), impl.TermText(state))
		}
		// One word behind the other: that of the last place, and none there any more.
		last := doesAs(t, x.word, tellsAll(t, h, "c<"+x.word), working(2), impl.HouseGood)
		if w := last.Workers[placeOf(t, last, "c")]; w.Pid == 4 != strings.Contains(x.who, "4") {
			t.Error(x.word, whoText(last))
		}
		for _, i := range []int{math.MinInt, -1, 3, 4, math.MaxInt} {
			doesAs(t, x.word, told, working(i), impl.HouseNone)
		}
		doesAs(t, x.word, tellsAll(t, h, "c<"+x.word), working(1), impl.HouseNone)
	}
}

// TestWorkByState: words are done in their order, each with the State that the one ahead left.
func TestWorkByState(t *testing.T) {
	h := tellsAll(t, houseFrom(t, "all 1 a,b"), "a<{add, 1}", "a<{add, 20}", "b<{add, 300}", "a<{come, {ok, 7}}", "a<{add, 4000}")
	for i, want := range []int{1, 21, 7, 4007} {
		h = doesAs(t, "a", h, working(0), impl.HouseGood)
		if h.Workers[0].State.N != want || len(h.Workers[0].Box) != 3-i {
			t.Fatal(i, houseText(h))
		}
	}
	doesAs(t, "a", h, working(0), impl.HouseNone)
	// Who falls takes the other's word and State with it.
	h = tellsAll(t, h, "a<1")
	h = doesAs(t, "a", h, working(0), impl.HouseGood)
	if whoText(h) != "a3 b4 | 0" || boxesText(h) != "a() b()" || h.Workers[0].State.N != 0 {
		t.Error(houseText(h))
	}
	h = doesAs(t, "a", tellsAll(t, h, "b<1"), working(1), impl.HouseGood)
	if whoText(h) != "| !0" {
		t.Error(whoText(h))
	}
	doesAs(t, "nobody", h, working(0), impl.HouseNone)
}

// TestWorkSendsByRoom: what finds no room is lost, what is behind it is not.
func TestWorkSendsByRoom(t *testing.T) {
	h := houseFrom(t, "one 2 a,b,c")
	for many := range 21 {
		for _, to := range []string{"a", "b", "pid(2)"} {
			full := tellsAll(t, h, "a<{say, [{"+to+", x}, {c, y}, {"+to+", z}]}")
			name := strings.ReplaceAll(to, "pid(2)", "b")
			for len(full.Workers[placeOf(t, full, name)].Box) < many {
				full = tellsAll(t, full, name+"<{add, 1}")
			}
			got := doesAs(t, to, full, working(0), impl.HouseGood)
			ahead := many
			if name == "a" {
				ahead = max(many-1, 0)
			}
			w := got.Workers[placeOf(t, got, name)]
			if len(w.Box) != min(ahead+2, 20) || len(got.Workers[2].Box) != 1 {
				t.Error(to, many, boxesText(got))
			}
			if room := 20 - ahead; room > 0 && w.Box[ahead].S != "x" || room > 1 && w.Box[ahead+1].S != "z" {
				t.Error(to, many, boxesText(got))
			}
		}
	}
	// As many as one word may send.
	h = tellsAll(t, h, "a<{say, ["+strings.TrimSuffix(strings.Repeat("{c, {add, 1}}, ", 20), ", ")+"]}")
	h.Workers[0].Box[0].L[1].L = slices.Repeat(h.Workers[0].Box[0].L[1].L, 2)
	h = doesAs(t, "many", h, working(0), impl.HouseGood)
	if len(h.Workers[2].Box) != 20 {
		t.Error(boxesText(h))
	}
	for i := range 20 {
		h = doesAs(t, "one by one", h, working(2), impl.HouseGood)
		if h.Workers[2].State.N != i+1 {
			t.Error(i, houseText(h))
		}
	}
}

func TestKill(t *testing.T) {
	for _, x := range []struct{ text, play, want string }{
		{"one 2 a,b,c", "", "a1 b2 c3 | -"}, {"one 2 a,b,c", "a", "b2 c3 a4 | 0"}, {"one 2 a,b,c", "b", "a1 c3 b4 | 0"}, {"one 2 a,b,c", "c", "a1 b2 c4 | 0"},
		{"all 2 a,b,c", "a", "a4 b5 c6 | 0"}, {"all 2 a,b,c", "b", "a4 b5 c6 | 0"}, {"all 2 a,b,c", "c", "a4 b5 c6 | 0"},
		{"rest 2 a,b,c", "a", "a4 b5 c6 | 0"}, {"rest 2 a,b,c", "b", "a1 b4 c5 | 0"}, {"rest 2 a,b,c", "c", "a1 b2 c4 | 0"},
		{"one 0 a", "a", "| !-"}, {"all 0 a,b", "b", "| !-"}, {"one 1 a", "a", "a2 | 0"}, {"one 1 a", "a a", "| !0"}, {"rest 1 a,b", "b a", "| !0"},
		// Just allowed, and one more; at the last time at which the first one counts, and behind it.
		{"one 2 a,b", "a a", "b2 a4 | 0,0"}, {"one 2 a,b", "a b", "a3 b4 | 0,0"}, {"one 2 a,b", "a a a", "| !0,0"}, {"one 2 a,b", "a a b", "| !0,0"}, {"one 2 a,b", "a +9 a", "b2 a4 | 0,9"}, {"one 2 a,b", "a +9 a a", "| !0,9"}, {"one 2 a,b", "a +9 a +1 a", "b2 a5 | 9,10"}, {"one 2 a,b", "a +9 a +1 a a", "| !9,10"}, {"one 2 a,b", "a a +9 b", "| !0,0"}, {"one 2 a,b", "a a +10 b", "a4 b5 | 10"}, {"all 1 a,b", "+7 a +10 b +10 a", "a7 b8 | 27"}, {"all 1 a,b", "+7 a +10 b +9 a", "| !17"},
		// The one above starts the one below anew, which then has no times any more.
		{"one 1 a,s:1,b; all 1 c,d", "", "a1 c2 d3 b4 | - | -"}, {"one 1 a,s:1,b; all 1 c,d", "d", "a1 b4 c5 d6 | - | 0"}, {"one 1 a,s:1,b; all 1 c,d", "d c", "a1 b4 c7 d8 | 0 | -"}, {"one 1 a,s:1,b; all 1 c,d", "d c d", "a1 b4 c9 d10 | 0 | 0"}, {"one 1 a,s:1,b; all 1 c,d", "d c d c", "| !0 | !0"}, {"one 1 a,s:1,b; all 1 c,d", "a d c", "| !0 | !0"}, {"one 1 a,s:1,b; all 1 c,d", "a b", "| !0 | !-"}, {"one 1 a,s:1,b; all 1 c,d", "d a", "b4 c5 d6 a7 | 0 | 0"}, {"one 1 a,s:1,b; all 1 c,d", "d a +10 c", "b4 a7 c8 d9 | 0 | 10"},
		{"rest 1 a,s:1,b; one 1 c", "c", "a1 b3 c4 | - | 0"}, {"rest 1 a,s:1,b; one 1 c", "c c", "a1 c5 b6 | 0 | -"}, {"rest 1 a,s:1,b; one 1 c", "c c c", "a1 b6 c7 | 0 | 0"}, {"rest 1 a,s:1,b; one 1 c", "c c c c", "| !0 | !0"}, {"rest 1 a,s:1,b; one 1 c", "c c b", "| !0 | !-"}, {"rest 1 a,s:1,b; one 1 c", "b", "a1 c2 b4 | 0 | -"}, {"rest 1 a,s:1,b; one 1 c", "c a", "a5 c6 b7 | 0 | -"},
		{"all 1 a,s:1,b; one 0 c", "c", "a4 c5 b6 | 0 | -"}, {"all 1 a,s:1,b; one 1 c", "c b", "a5 c6 b7 | 0 | -"}, {"all 1 a,s:1,b; one 0 c", "c c", "| !0 | !-"},
		// Up and up, to the first one.
		{"one 1 a,s:1; one 0 u:2,b; one 0 c", "", "a1 c2 b3 | - | - | -"}, {"one 1 a,s:1; one 0 u:2,b; one 0 c", "c", "a1 c4 b5 | 0 | - | -"}, {"one 1 a,s:1; one 0 u:2,b; one 0 c", "c c", "| !0 | !- | !-"}, {"one 1 a,s:1; one 0 u:2,b; one 0 c", "b c", "| !0 | !- | !-"}, {"one 0 s:1; one 0 u:2; one 0 c", "c", "| !- | !- | !-"}, {"one 1 a,s:1; one 1 u:2,b; one 0 c", "c", "a1 b3 c4 | - | 0 | -"}, {"one 1 a,s:1; one 1 u:2,b; one 0 c", "c c", "a1 c5 b6 | 0 | - | -"}, {"one 1 a,s:1; one 1 u:2,b; one 0 c", "c c c c", "| !0 | !0 | !-"}, {"one 1 s:1,a; all 1 u:2,b; rest 1 c,d", "c d", "a4 c7 d8 b9 | - | 0 | -"}, {"one 1 s:1,a; all 1 u:2,b; rest 1 c,d", "d", "c1 b3 a4 d5 | - | - | 0"},
		{"one 1 s1:1; one 0 s2:2; one 0 s3:3; one 0 s4:4; one 0 s5:5; one 0 s6:6; one 0 s7:7; one 0 a", "a", "a2 | 0 | - | - | - | - | - | - | -"}, {"one 1 s1:1; one 0 s2:2; one 0 s3:3; one 0 s4:4; one 0 s5:5; one 0 s6:6; one 0 s7:7; one 0 a", "a a", "| !0 | !- | !- | !- | !- | !- | !- | !-"},
		// Those that go with it, and those below them; those ahead do not.
		{"all 2 s:1,u:2; one 2 a; one 2 b", "b a", "b3 a4 | - | 0 | 0"}, {"all 2 s:1,u:2; one 2 a; one 2 b", "b a a a", "a6 b7 | 0 | - | -"}, {"rest 2 s:1,u:2; one 0 a; one 2 b", "b a", "a4 b5 | 0 | - | -"}, {"rest 2 s:1,u:2; one 2 a; one 0 b", "a b", "a3 b4 | 0 | 0 | -"}, {"one 2 s:1,u:2; one 0 a; one 2 b", "b a", "b3 a4 | 0 | - | 0"}, {"rest 2 a,s:1,b,u:2,c; one 2 d; one 2 e,f", "b", "a1 d2 b7 e8 f9 c10 | 0 | - | -"}, {"rest 2 a,s:1,b,u:2,c; one 2 d; one 2 e,f", "d e b", "a1 d7 b9 e10 f11 c12 | 0 | 0 | -"}, {"all 2 a,s:1,b; all 2 c,u:2; all 2 d,e", "c", "a1 b5 c6 d7 e8 | - | 0 | -"}, {"all 2 a,s:1,b; all 2 c,u:2; all 2 d,e", "e c a", "a11 c12 d13 e14 b15 | 0 | - | -"},
		{"all 2 s:2,u:1; one 0 a,b; one 1 c", "c b", "c5 a6 b7 | 0 | - | -"}, {"rest 2 s:2,u:1; one 0 a,b; one 1 c", "c b", "c4 a5 b6 | 0 | - | 0"},
	} {
		if got := playsOut(t, houseFrom(t, x.text), x.play); whoText(got) != x.want {
			t.Errorf("%s, %s: %s, not %s", x.text, x.play, whoText(got), x.want)
		}
	}
}

func TestKillAtPlaces(t *testing.T) {
	for _, text := range []string{"one 2 a", "all 2 a,b,c", "rest 2 a,s:1,b; one 2 c"} {
		h := houseFrom(t, text)
		for i := -3; i < 8; i++ {
			if i >= 0 && i < len(h.Workers) {
				kills(t, text, h, i)
				continue
			}
			doesAs(t, text, h, killing(i), impl.HouseNone)
		}
		for _, i := range []int{math.MinInt, math.MinInt + 1, 1 << 32, 1<<32 + 1, math.MaxInt} {
			doesAs(t, text, h, killing(i), impl.HouseNone)
		}
	}
	down := downHouse(t)
	for _, i := range []int{math.MinInt, -1, 0, 1, math.MaxInt} {
		doesAs(t, "nobody", down, killing(i), impl.HouseNone)
	}
}

// TestFallenIsStartedAnew: promise 15, of each worker of very many houses, again and again until the first overseer gives up, or for long.
func TestFallenIsStartedAnew(t *testing.T) {
	r := rand.New(rand.NewSource(16))
	falls, ends := 0, 0
	for range 150 {
		h, ok := impl.HouseNew(tableFor(t, obeys), treeOfWays(r))
		if !ok {
			t.Fatal("no house")
		}
		for range 25 {
			if len(h.Workers) == 0 {
				ends++
				break
			}
			h = kills(t, "again", h, r.Intn(len(h.Workers)))
			falls++
			if r.Intn(3) == 0 {
				h = doesAs(t, "again", h, passing(1+r.Intn(12)), impl.HouseGood)
			}
		}
	}
	if falls < 1000 || ends < 50 {
		t.Error("too few to tell anything:", falls, ends)
	}
}

// treeOfWays: up to 8 overseers, each below one that is ahead of it, with a Kid or more of the module k.
func treeOfWays(r *rand.Rand) []impl.Over {
	var l []impl.Over
	for at := range 1 + r.Intn(8) {
		o := overOf(1+r.Intn(3), numberedKids(fmt.Sprintf("k%d_", at), 1+r.Intn(3))...)
		o.MaxR, o.MaxT = r.Intn(4), 1+r.Intn(12)
		l = append(l, o)
		for at > 0 {
			above := &l[r.Intn(at)]
			if len(above.Kids) == 8 {
				continue
			}
			i := r.Intn(len(above.Kids) + 1)
			above.Kids, above.Pids = slices.Insert(above.Kids, i, subKid(fmt.Sprint("s", at), at)), slices.Insert(above.Pids, i, 0)
			break
		}
	}
	return l
}

func TestPassTime(t *testing.T) {
	h := playsOut(t, houseFrom(t, "one 2 a,b"), "+5 a")
	for n, want := range map[int]int{math.MinInt: impl.HouseForm, -10001: impl.HouseForm, -5: impl.HouseForm, -1: impl.HouseForm, 0: impl.HouseForm, 1: impl.HouseGood, 2: impl.HouseGood, 9999: impl.HouseGood, 10000: impl.HouseGood, 10001: impl.HouseForm, 100000000: impl.HouseForm, 1<<32 + 1: impl.HouseForm, math.MaxInt: impl.HouseForm} {
		got := doesAs(t, "pass", h, passing(n), want)
		if want == impl.HouseGood && got.Now != 5+n || want != impl.HouseGood && got.Now != 5 || whoText(got) != "b2 a3 | 5" {
			t.Error(n, houseText(got))
		}
	}
	for left := range 4 {
		for _, step := range []int{1, 2, 3, 9999, 10000} {
			h.Now = 100000000 - step + 1 - left
			want := impl.HouseGood
			if left == 0 {
				want = impl.HouseFull
			}
			if got := doesAs(t, "to the end", h, passing(step), want); got.Now != min(h.Now+step, 100000001) && left > 0 {
				t.Error(step, houseText(got))
			}
		}
	}
	h.Now = 100000000
	for _, n := range []int{1, 10000} {
		doesAs(t, "at the end", h, passing(n), impl.HouseFull)
	}
	for _, n := range []int{math.MinInt, -1, 0, 10001, math.MaxInt} {
		doesAs(t, "at the end", h, passing(n), impl.HouseForm)
	}
	// One step after the other, up to the end.
	h.Now = 99940005
	many := 0
	for code := impl.HouseGood; code == impl.HouseGood; many++ {
		h, code = does(t, "on", h, passing(10000))
	}
	if h.Now != 99990005+9990 && h.Now != 99990005 || many != 6 {
		t.Error(h.Now, many)
	}
	// At the very end workers still fall, and are started anew.
	h.Now = 100000000
	if h = kills(t, "at the end", h, 0); whoText(h) != "a3 b4 | 100000000" {
		t.Error(whoText(h))
	}
}

func TestLoad(t *testing.T) {
	h := houseFrom(t, "one 2 a,b")
	m := moduleOf(t, obeys)
	was := h.Tab[0].Cur
	got := doesAs(t, "a new name", h, loading("j", m), impl.HouseGood)
	if len(got.Tab) != 2 || got.Tab[0].Name != "j" || got.Tab[0].No != 1 || got.Tab[0].HasOld || !impl.SameCode(got.Tab[0].Cur, was) {
		t.Error(houseText(got))
	}
	other := moduleOf(t, "handle(S, W) -> {ok, W}.")
	got = doesAs(t, "a second one", got, loading("k", other), impl.HouseGood)
	if e := got.Tab[1]; e.No != 2 || !e.HasOld || !impl.SameCode(e.Old, was) || got.Workers[0].No != 1 || whoText(got) != "a1 b2 | -" {
		t.Error(houseText(got))
	}
	doesAs(t, "a third one", got, loading("k", m), impl.HouseFull)
	got = doesAs(t, "a second of the other name", got, loading("j", other), impl.HouseGood)
	doesAs(t, "a third of the other name", got, loading("j", other), impl.HouseFull)
	// Who is there does as before, who is started anew is of the newest.
	got = tellsAll(t, got, "a<{add, 5}", "b<{add, 5}")
	got = playsOut(t, doesAs(t, "work", got, working(0), impl.HouseGood), "b")
	got = doesAs(t, "work", tellsAll(t, got, "b<{add, 5}"), working(1), impl.HouseGood)
	if got.Workers[0].State.N != 5 || got.Workers[1].No != 2 || impl.TermText(got.Workers[1].State) != "{add,5}" {
		t.Error(houseText(got))
	}
	for _, name := range []string{"", "A", "_", "0a", "a b", "k\x00", "ä", twentySmall + "u", strings.Repeat("a", 1000)} {
		doesAs(t, "no atom", h, loading(name, m), impl.HouseFull)
		doesAs(t, "neither", h, loading(name, moduleOf(t, "f() -> X.")), impl.HouseForm)
	}
	for _, name := range []string{"a", "z", "case", "of", twentySmall} {
		doesAs(t, "an atom", h, loading(name, m), impl.HouseGood)
		doesAs(t, "an atom", h, loading(name, impl.Module{}), impl.HouseGood)
	}
}

func TestLoadRefused(t *testing.T) {
	h := houseFrom(t, "one 2 a,b")
	full := plainCopyHouse(h)
	full.Tab = append(tableOf(8), full.Tab...)
	slices.SortFunc(full.Tab, func(a impl.Entry, b impl.Entry) int { return strings.Compare(a.Name, b.Name) })
	great := plainCopyHouse(h)
	great.Tab[0].No, great.Workers[0].No, great.Workers[1].No = 10000, 10000, 10000
	good := moduleOf(t, obeys)
	for _, text := range notRightTexts() {
		m := moduleOf(t, text)
		for _, name := range []string{"k", "j", "", "m01"} {
			for _, from := range []impl.House{h, full, great} {
				doesAs(t, text, from, loading(name, m), impl.HouseForm)
			}
		}
	}
	for i, m := range []impl.Module{{Funs: []impl.Fun{{}}}, moduleX(funX("A", intX(1))), moduleX(funX("f", impl.Expr{})), moduleX(funX("f", intX(-1))), moduleX(funX("f", intX(1), "_")), moduleX(slices.Repeat([]impl.Fun{funX("f", intX(1))}, 13)...), moduleX(funX("f", callX("g"))), moduleX(funX("f", varX("X")))} {
		doesAs(t, fmt.Sprint("wrong ", i), h, loading("j", m), impl.HouseForm)
	}
	full = doesAs(t, "the tenth", full, loading("a", good), impl.HouseGood)
	doesAs(t, "an eleventh", full, loading("b", good), impl.HouseFull)
	doesAs(t, "an eleventh", full, loading("zz", good), impl.HouseFull)
	doesAs(t, "of ten", full, loading("k", good), impl.HouseGood)
	doesAs(t, "of ten", full, loading("m00", good), impl.HouseGood)
	doesAs(t, "of ten, with an Old", full, loading("m01", good), impl.HouseFull)
	doesAs(t, "number 10001", great, loading("k", good), impl.HouseFull)
	doesAs(t, "another", great, loading("j", good), impl.HouseGood)
	great.Tab[0].No, great.Workers[0].No, great.Workers[1].No = 9999, 9999, 9999
	great = doesAs(t, "number 10000", great, loading("k", good), impl.HouseGood)
	doesAs(t, "a third", great, loading("k", good), impl.HouseFull)
}

func TestPurge(t *testing.T) {
	m := moduleOf(t, obeys)
	for _, x := range []struct{ text, ahead, behind, want string }{
		// None of the old, all, and some of both.
		{"one 2 a,b,c", "", "a b", "| !0,0"}, {"one 9 a,b,c", "", "a b", "a4 b5 c6 | 0,0,0"}, {"one 9 a,b,c", "", "a b c", "a4 b5 c6 | 0,0,0"}, {"one 9 a,b,c", "", "", "a4 b5 c6 | 0,0,0"}, {"one 9 a,b,c", "a a", "", "b6 c7 a8 | 0,0,0,0,0"}, {"one 9 a,b,c", "a", "b", "b5 c6 a7 | 0,0,0,0"}, {"one 9 a,b,c", "", "b", "b4 a5 c6 | 0,0,0"},
		// Those that go with the first one are of the newest then, so that they do not fall.
		{"all 9 a,b,c", "", "", "a4 b5 c6 | 0"}, {"rest 9 a,b,c", "", "", "a4 b5 c6 | 0"}, {"rest 9 a,b,c", "", "c", "a5 b6 c7 | 0,0"}, {"rest 9 a,b,c", "b", "", "a6 b7 c8 | 0,0"}, {"rest 9 a,s:1,b; one 9 c,d", "", "a", "a5 c6 d7 b8 | 0 | -"}, {"one 9 a,s:1,b; all 9 c,d", "", "", "a5 c6 d7 b8 | 0,0 | 0"}, {"one 9 a,s:1,b; rest 9 c,d", "d", "", "a6 c7 d8 b9 | 0,0 | 0,0"},
		// The overseer gives up by it, and whoever is above it, too.
		{"one 2 a,b,c", "", "", "| !0,0"}, {"one 0 a", "", "", "| !-"}, {"one 1 a,b", "", "", "| !0"}, {"one 2 a,s:1,b; one 1 c,d", "", "", "| !0,0 | !-"}, {"one 3 a,s:1,b; one 1 c,d", "", "", "a5 c7 d8 b9 | 0,0,0 | -"}, {"one 9 a,s:1; one 1 c,d", "", "", "a4 c6 d7 | 0,0 | -"}, {"one 1 a,s:1; one 1 c,d", "", "", "| !0 | !0"}, {"all 1 a,s:1; one 1 c,d", "", "a", "a4 c5 d6 | 0 | -"}, {"rest 2 s:1,a; one 0 c,d", "", "", "c4 d5 a6 | 0 | -"}, {"one 2 s:1,u:2; one 0 a; one 0 b", "", "", "a3 b4 | 0,0 | - | -"},
	} {
		x.text = strings.ReplaceAll(x.text, " 9 ", " 20 ")
		h := playsOut(t, houseFrom(t, x.text), x.ahead)
		h = doesAs(t, x.text, h, loading("k", m), impl.HouseGood)
		h = playsOut(t, h, x.behind)
		got := doesAs(t, x.text, h, purging("k"), impl.HouseGood)
		if whoText(got) != x.want || got.Tab[0].HasOld || got.Tab[0].No != 2 {
			t.Errorf("%s, %s, %s: %s, not %s", x.text, x.ahead, x.behind, houseText(got), x.want)
		}
		doesAs(t, x.text, got, purging("k"), impl.HouseNone)
		got = doesAs(t, x.text, got, loading("k", m), impl.HouseGood)
		if got.Tab[0].No != 3 || !got.Tab[0].HasOld {
			t.Error(houseText(got))
		}
	}
}

// TestPurgeOfNames: of one that is not there, one without an Old, and one that nobody is of; the others are as they were.
func TestPurgeOfNames(t *testing.T) {
	h := fullHouse(t)
	for _, name := range []string{"", "A", "a", "j", "kk", "z", "handle", "k\x00", twentySmall + "u", strings.Repeat("a", 1000)} {
		doesAs(t, "not there, or no Old", h, purging(name), impl.HouseNone)
	}
	m := moduleOf(t, obeys)
	for _, name := range []string{"a", "z"} {
		got := doesAs(t, "another", h, loading(name, m), impl.HouseGood)
		doesAs(t, "another", got, purging(name), impl.HouseNone)
		got = doesAs(t, "another", got, loading(name, m), impl.HouseGood)
		got = doesAs(t, "another", got, purging(name), impl.HouseGood)
		if whoText(got) != whoText(h) || got.Next != h.Next || !slices.EqualFunc(got.Workers, h.Workers, alikeWorkers) {
			t.Error(name, houseText(got))
		}
	}
	// Of two modules only those of this one fall: e, of j, goes on alone.
	h = houseFrom(t, "one 20 a,b,c")
	h.Tab = append([]impl.Entry{entryOf("j", 1, codeFor(t, obeys))}, h.Tab...)
	h.Overs[0].Kids[1].Mod, h.Workers[1].Mod = "j", "j"
	h = doesAs(t, "two", h, loading("k", m), impl.HouseGood)
	h = doesAs(t, "two", h, loading("j", m), impl.HouseGood)
	if got := doesAs(t, "two", h, purging("k"), impl.HouseGood); whoText(got) != "b2 a4 c5 | 0,0" || got.Workers[0].No != 1 || !got.Tab[0].HasOld || got.Tab[1].HasOld {
		t.Error(houseText(got))
	}
	if got := doesAs(t, "two", h, purging("j"), impl.HouseGood); whoText(got) != "a1 c3 b4 | 0" || got.Workers[2].No != 2 || got.Tab[0].HasOld || !got.Tab[1].HasOld {
		t.Error(houseText(got))
	}
	// A house that is Down may be purged as well.
	down := downHouse(t)
	down = doesAs(t, "down", down, purging("k"), impl.HouseGood)
	doesAs(t, "down", down, purging("k"), impl.HouseNone)
}

func TestRenewAt(t *testing.T) {
	m := moduleOf(t, obeys)
	h := tellsAll(t, houseFrom(t, "one 2 a,b,c"), "a<1", "b<2", "b<{bad, {ok, 5}}")
	for i := -2; i < 6; i++ {
		want := impl.HouseNone
		if i >= 0 && i < 3 {
			want = impl.HouseFull
		}
		doesAs(t, "of the newest", h, renewing(i), want)
	}
	h = doesAs(t, "load", h, loading("k", m), impl.HouseGood)
	for i := range 3 {
		got := doesAs(t, "of the old", h, renewing(i), impl.HouseGood)
		if w := got.Workers[i]; w.No != 2 || impl.TermText(w.State) != "{new,"+strconv.Itoa(0)+"}" || whoText(got) != "a1 b2 c3 | -" || boxesText(got) != "a(1) b(2 {bad,{ok,5}}) c()" {
			t.Error(houseText(got))
		}
		doesAs(t, "again", got, renewing(i), impl.HouseFull)
		for other := range 3 {
			if other != i {
				doesAs(t, "another", got, renewing(other), impl.HouseGood)
			}
		}
	}
	for _, i := range []int{math.MinInt, -1, 3, 4, 1 << 32, math.MaxInt} {
		doesAs(t, "none", h, renewing(i), impl.HouseNone)
	}
	// What change comes to, and a change that falls.
	for text, want := range map[string]string{"{bad, {ok, 5}}": "5", "{bad, {ok, {}}}": "{}", "{bad, 1}": "", "{bad, {ok, 1, []}}": "", "{bad, {stop, 1}}": "", "{bad, {no, 1}}": "", "{bad, ok}": "", "{bad, []}": "", "bad": "{new,bad}", "{bad, 1, 2}": "{new,{bad,1,2}}"} {
		told := doesAs(t, text, tellsAll(t, h, "c<{come, {ok, "+text+"}}"), working(2), impl.HouseGood)
		code := impl.HouseGood
		if want == "" {
			code = impl.HouseFull
		}
		if got := doesAs(t, text, told, renewing(2), code); want != "" && impl.TermText(got.Workers[2].State) != want {
			t.Error(text, houseText(got))
		}
	}
	for _, text := range []string{"f() -> 1.", "change() -> {ok, 1}.", "change(S, W) -> {ok, S}.", "change(S) -> (S + a).", "change(S) -> change(S).", "change(S) -> S."} {
		odd := houseFrom(t, "one 2 a")
		odd = doesAs(t, text, odd, loading("k", moduleOf(t, text)), impl.HouseGood)
		doesAs(t, text, odd, renewing(0), impl.HouseFull)
	}
	doesAs(t, "nobody", downHouse(t), renewing(0), impl.HouseNone)
}

// allDeeds: of each function some that are done, and some that are not, of a house such as fullHouse.
func allDeeds(t *testing.T) []deed {
	t.Helper()
	m, wrong := moduleOf(t, obeys), moduleOf(t, "f() -> X.")
	l := []deed{loading("k", m), loading("j", m), loading("z", m), loading("A", m), loading("z", wrong), purging("k"), purging("j"), purging("z"), purging("A")}
	for _, to := range []impl.Term{atomTerm("a"), atomTerm("e"), atomTerm("z"), pidTerm(1), pidTerm(15), pidTerm(-1), intTerm(1), {}} {
		l = append(l, telling(to, intTerm(7)), telling(to, countedTerm(300)), telling(to, impl.Term{}), telling(to, countedTerm(301)))
	}
	for _, i := range []int{math.MinInt, -1, 0, 1, 4, 5, math.MaxInt} {
		l = append(l, working(i), killing(i), renewing(i), passing(i))
	}
	return append(l, passing(10000), passing(10001))
}

// TestHouseRefused: each function of a house that is not right, whatever else is handed in.
func TestHouseRefused(t *testing.T) {
	deeds := allDeeds(t)
	at, many := 0, 0
	bent(t, func(what string, h impl.House, right bool) {
		if right {
			return
		}
		// Some of them each, all of them by and by.
		for range 7 {
			doesAs(t, what, h, deeds[at%len(deeds)], impl.HouseForm)
			at++
		}
		many++
	})
	if many < 300 {
		t.Error("too few to tell anything:", many)
	}
	for what, h := range map[string]impl.House{"the zero one": {}, "no Next": {Tab: tableFor(t, obeys), Overs: oversFrom(t, "one 2 a")}, "not started": {Tab: tableFor(t, obeys), Overs: oversFrom(t, "one 2 a"), Next: 1}, "a Next too great": {Next: 900001}} {
		for _, d := range deeds {
			doesAs(t, what, h, d, impl.HouseForm)
		}
	}
	// What cannot be done is refused in the same way whatever the house.
	for _, h := range []impl.House{fullHouse(t), downHouse(t)} {
		for _, d := range deeds {
			does(t, "right", h, d)
		}
	}
}

// TestHouseByNext: with a Next of 890000 and one more; only what may start somebody is refused then, ahead of all else but what is not right.
func TestHouseByNext(t *testing.T) {
	for _, next := range []int{889999, 890000, 890001, 899999, 900000} {
		for _, h := range []impl.House{fullHouse(t), downHouse(t)} {
			h.Next = next
			for _, d := range allDeeds(t) {
				_, code := does(t, fmt.Sprint("Next ", next), h, d)
				starts := strings.HasPrefix(d.what, "Work") || strings.HasPrefix(d.what, "Kill") || strings.HasPrefix(d.what, "Purge")
				if starts && (code == impl.HouseFull) != (next > 890000) {
					t.Error(next, d.what, code)
				}
			}
		}
	}
	h := houseFrom(t, "all 2 a,b")
	h.Next = 890000
	if got := kills(t, "the last", h, 1); whoText(got) != "a890000 b890001 | 0" || got.Next != 890002 {
		t.Error(whoText(got))
	} else {
		doesAs(t, "behind it", got, killing(0), impl.HouseFull)
		doesAs(t, "behind it", got, working(0), impl.HouseFull)
		doesAs(t, "behind it", got, purging("z"), impl.HouseFull)
	}
	// Who could do its word without any start is refused as well.
	h = tellsAll(t, h, "a<{add, 1}")
	doesAs(t, "at 890000", h, working(0), impl.HouseGood)
	h.Next = 890001
	doesAs(t, "at 890001", h, working(0), impl.HouseFull)
	doesAs(t, "at 890001", h, working(1), impl.HouseFull)
	doesAs(t, "at 890001", h, working(-1), impl.HouseFull)
	doesAs(t, "at 890001", h, telling(atomTerm("a"), intTerm(1)), impl.HouseGood)
	doesAs(t, "at 890001", h, passing(1), impl.HouseGood)
	h = doesAs(t, "at 890001", h, loading("k", moduleOf(t, obeys)), impl.HouseGood)
	doesAs(t, "at 890001", h, renewing(0), impl.HouseGood)
	doesAs(t, "at 890001", h, purging("k"), impl.HouseFull)
	h.Now = -1
	doesAs(t, "not right", h, killing(-1), impl.HouseForm)
}

// TestHouseAtLeastAndGreatest: all of them at the least and the greatest int.
func TestHouseAtLeastAndGreatest(t *testing.T) {
	edges := []int{math.MinInt, math.MinInt + 1, -1 << 32, -1, 0, 1, 1 << 32, 1<<32 + 1, math.MaxInt - 1, math.MaxInt}
	full := fullHouse(t)
	for _, n := range edges {
		for _, i := range edges {
			for _, change := range []func(h *impl.House){func(h *impl.House) {}, func(h *impl.House) { h.Next = i }, func(h *impl.House) { h.Now = i }, func(h *impl.House) { h.Overs[0].Times = []int{i} }, func(h *impl.House) { h.Overs[2].Times = []int{i, i} }, func(h *impl.House) { h.Overs[0].Kids[1].Sub = i }, func(h *impl.House) { h.Workers[0].Pid = i }, func(h *impl.House) { h.Tab[0].No = i }, func(h *impl.House) { h.Overs[0].MaxT, h.Overs[1].MaxT = i, i }} {
				h := plainCopyHouse(full)
				change(&h)
				for _, d := range []deed{working(n), killing(n), passing(n), renewing(n), telling(pidTerm(n), intTerm(i)), telling(impl.Term{K: n, N: i}, intTerm(1))} {
					does(t, "edges", h, d)
				}
			}
		}
		for _, i := range edges {
			overs := oversFrom(t, "one 2 a,s:1; one 2 b")
			overs[0].MaxR, overs[1].MaxT = 2, 10
			overs[1].Pids[0] = i
			housed(t, "edges", tableFor(t, obeys), overs)
			overs[1].Pids[0], overs[0].Kids[1].Sub = 0, i
			housed(t, "edges", tableFor(t, obeys), overs)
		}
	}
}

// mixedDeed: what may come over a house; most of it can be done.
func mixedDeed(r *rand.Rand, h impl.House, modules []impl.Module, words []impl.Term) deed {
	i := r.Intn(len(h.Workers)+2) - 1
	waits := slices.IndexFunc(h.Workers, func(w impl.Worker) bool { return len(w.Box) > 0 })
	if waits >= 0 && r.Intn(2) == 0 {
		i = waits + r.Intn(len(h.Workers)-waits)
	}
	to := []impl.Term{atomTerm("s1"), pidTerm(r.Intn(h.Next + 2)), intTerm(1)}[r.Intn(3)]
	if r.Intn(5) > 0 && len(h.Workers) > 0 {
		w := h.Workers[r.Intn(len(h.Workers))]
		to = []impl.Term{atomTerm(w.Name), pidTerm(w.Pid)}[r.Intn(2)]
	}
	name := []string{"k", "k", "j", "j", "z", "A"}[r.Intn(6)]
	switch r.Intn(12) {
	case 0, 1, 2:
		word := words[r.Intn(len(words))]
		if r.Intn(3) == 0 {
			word = tupleTerm(atomTerm("say"), listTerm(tupleTerm(to, word), tupleTerm(atomTerm("k0_0"), word), tupleTerm(pidTerm(r.Intn(h.Next+1)), word)))
		}
		if r.Intn(40) == 0 {
			word = wrongTerms()[r.Intn(20)]
		}
		return telling(to, word)
	case 3, 4, 5, 6:
		return working(i)
	case 7:
		return killing(i)
	case 8:
		return passing([]int{0, 1, 2, 5, 10, 100, 10000, 10001}[r.Intn(8)])
	case 9:
		return loading(name, modules[r.Intn(len(modules))])
	case 10:
		return purging(name)
	}
	return renewing(i)
}

// spoilHouse changes one thing, most often to what is wrong.
func spoilHouse(r *rand.Rand, h impl.House) impl.House {
	h = plainCopyHouse(h)
	o := &h.Overs[r.Intn(len(h.Overs))]
	i := r.Intn(len(o.Kids))
	w := &impl.Worker{}
	if len(h.Workers) > 0 {
		w = &h.Workers[r.Intn(len(h.Workers))]
	}
	switch r.Intn(16) {
	case 0:
		h.Next = []int{0, w.Pid, w.Pid + 1, h.Next - 1, 900000, 900001}[r.Intn(6)]
	case 1:
		h.Now = []int{-1, 0, h.Now - 1, h.Now + 1, 100000000, 100000001}[r.Intn(6)]
	case 2:
		h.Tab = spoilTable(r, h.Tab)
	case 3:
		o.Times = []int{[]int{h.Now, h.Now + 1, -1}[r.Intn(3)]}
	case 4:
		o.Down = !o.Down
	case 5:
		o.Pids[i] = []int{0, w.Pid, h.Next, -1}[r.Intn(4)]
	case 6:
		o.Kids[i].Mod = []string{"j", "k", "z", ""}[r.Intn(4)]
	case 7:
		o.Kids[i].Name = []string{"k0_0", "s1", "other", "A"}[r.Intn(4)]
	case 8:
		o.Kids[i].Sub = r.Intn(9) - 1
	case 9:
		w.Name = []string{"k0_0", "s1", "other", "A"}[r.Intn(4)]
	case 10:
		w.Mod = []string{"j", "k", "z", ""}[r.Intn(4)]
	case 11:
		w.No = r.Intn(5)
	case 12:
		w.Pid = r.Intn(h.Next + 2)
	case 13:
		h.Workers = append(h.Workers, *w)
	case 14:
		h.Workers = slices.DeleteFunc(h.Workers, func(x impl.Worker) bool { return x.Pid == w.Pid })
	case 15:
		w.Box = append(w.Box, wrongTerms()[r.Intn(20)])
	}
	return h
}

func TestHousesByAnotherWitness(t *testing.T) {
	r := rand.New(rand.NewSource(15))
	var modules []impl.Module
	for _, text := range []string{obeys, echo, "handle(S, W) -> {ok, {S, W}, [{k0_0, W}, {k1_0, S}]}. change(S) -> {ok, [S]}.", "handle(S, W) -> {ok, W}.", "f() -> X."} {
		modules = append(modules, moduleOf(t, text))
	}
	words := append(randomTerms(17, 30, 3), termFrom(t, "{add, 3}"), termFrom(t, "{add, 4}"), termFrom(t, "stop"))
	for _, x := range answers() {
		words = append(words, termFrom(t, x.text), tupleTerm(atomTerm("come"), termFrom(t, x.text)))
	}
	told := map[string]*[4]int{}
	right, wrong := 0, 0
	for range 130 {
		overs := treeOfWays(r)
		for _, o := range overs {
			for i := range o.Kids {
				if o.Kids[i].Sub < 0 {
					o.Kids[i].Mod, o.Kids[i].Init = []string{"j", "k"}[r.Intn(2)], words[r.Intn(30)]
				}
			}
		}
		h, ok := housed(t, "mixed", []impl.Entry{entryOf("j", 1+r.Intn(3), codeFor(t, obeys)), entryOf("k", 1, codeFor(t, obeys))}, overs)
		if !ok {
			t.Fatal("no house")
		}
		if r.Intn(4) == 0 {
			h.Next = 889900 + r.Intn(200)
		}
		for range 45 {
			d := mixedDeed(r, h, modules, words)
			got, code := does(t, "mixed", h, d)
			name, _, _ := strings.Cut(d.what, " ")
			if told[name] == nil {
				told[name] = &[4]int{}
			}
			told[name][code]++
			h = got
			if r.Intn(8) == 0 {
				spoilt := spoilHouse(r, h)
				houseIs(t, "spoilt", spoilt, plainHouseOk(spoilt))
				if plainHouseOk(spoilt) {
					right++
				} else {
					wrong++
				}
				does(t, "spoilt", spoilt, d)
			}
		}
	}
	for name, many := range told {
		needs := map[string][4]int{"Tell": {200, 50, 20, 0}, "Work": {200, 0, 50, 20}, "Kill": {100, 0, 20, 10}, "PassTime": {100, 50, 0, 0}, "Load": {50, 20, 0, 50}, "Purge": {20, 0, 50, 10}, "RenewAt": {20, 0, 20, 20}}[name]
		for code := range needs {
			if many[code] < needs[code] {
				t.Error("too few to tell anything of", name, code, *many)
			}
		}
	}
	if right < 50 || wrong < 200 {
		t.Error("too few to tell anything:", right, wrong)
	}
}

// TestHousesLeaveArgumentsAlone: and what stands behind a list's length is neither read nor written.
func TestHousesLeaveArgumentsAlone(t *testing.T) {
	build := func() (impl.House, []impl.House) {
		h := fullHouse(t)
		h.Tab = append(h.Tab, impl.Entry{Name: "z", No: 77}, impl.Entry{})
		h.Workers = append(h.Workers, impl.Worker{Pid: 900, Name: "behind", No: 99}, impl.Worker{})
		h.Overs = append(h.Overs, overOf(9, workKid("behind")), impl.Over{})
		for at := range 3 {
			o := &h.Overs[at]
			o.Kids = append(o.Kids, workKid("behind"), impl.Kid{})
			o.Pids, o.Times = append(o.Pids, 55, 66), append(o.Times, 1, 2, 3)
		}
		for at := range 5 {
			w := &h.Workers[at]
			w.Box = append(w.Box, impl.Term{K: 77}, impl.Term{}, impl.Term{})
			w.State = impl.Term{K: impl.TTuple, L: []impl.Term{intTerm(1), {K: 88}, {}}}
		}
		cut := impl.House{Tab: h.Tab[:2], Workers: slices.Clone(h.Workers)[:5], Overs: slices.Clone(h.Overs)[:3], Next: h.Next, Now: h.Now}
		for at := range cut.Overs {
			o := &cut.Overs[at]
			o.Kids, o.Pids, o.Times = o.Kids[:len(o.Kids)-2], o.Pids[:len(o.Pids)-2], o.Times[:len(o.Times)-3]
		}
		for at := range cut.Workers {
			w := &cut.Workers[at]
			w.Box, w.State.L = w.Box[:len(w.Box)-3], w.State.L[:1]
		}
		return h, []impl.House{cut}
	}
	whole, cut := build()
	want, _ := build()
	houseIs(t, "with room behind", cut[0], true)
	houseIs(t, "with what was behind", whole, false)
	for _, d := range allDeeds(t) {
		does(t, "with room behind", cut[0], d)
		does(t, "with what was behind", whole, d)
		if !alikeHouses(whole, want) {
			t.Fatal(d.what, "wrote behind a list")
		}
	}
	parts, _ := roomyTerms()
	keptParts, _ := roomyTerms()
	for _, x := range []impl.Term{{K: impl.TList, L: parts[:1]}, {K: impl.TTuple, L: parts[:0]}, {K: impl.TAtom, S: "a", L: parts[:2]}} {
		does(t, "with room behind", cut[0], telling(x, x))
		does(t, "with room behind", cut[0], telling(atomTerm("a"), x))
	}
	if !slices.EqualFunc(parts, keptParts, alikeTerms) {
		t.Error("Tell wrote behind a term")
	}
	overs := oversFrom(t, "one 2 a,s:1; one 2 b; one 2 c,d")
	kept := plainCopyOvers(overs)
	for at := range overs {
		o := &overs[at]
		o.Pids, o.Times = append(o.Pids, 7, 7)[:len(o.Pids)], []int{5, 6}[:0]
	}
	table := append(tableFor(t, obeys), impl.Entry{Name: "a", No: 77})
	if h, ok := housed(t, "with room behind", table[:1], overs[:2]); !ok || whoText(h) != "a1 b2 | - | -" {
		t.Error(ok, houseText(h))
	}
	housed(t, "with what was behind", table, overs)
	if !slices.EqualFunc(overs, kept, alikeOvers) || overs[0].Times[:2][1] != 6 || overs[0].Pids[:4][3] != 7 {
		t.Error("HouseNew wrote behind a list")
	}
}

// TestHousesShareNoMemory: one list everywhere in the arguments is apart at each place of an answer.
func TestHousesShareNoMemory(t *testing.T) {
	x := listTerm(intTerm(1), tupleTerm(atomTerm("a"), listTerm()))
	both := tupleTerm(x, x)
	c := codeFor(t, obeys)
	build := func() impl.House {
		overs := oversFrom(t, "all 5 a,s:1,b; all 5 c,d")
		for at := range overs {
			for i := range overs[at].Kids {
				if overs[at].Kids[i].Sub < 0 {
					overs[at].Kids[i].Init = both
				}
			}
		}
		h, ok := impl.HouseNew([]impl.Entry{entryOf("j", 1, c), entryWithOld("k", 2, c, c)}, overs)
		if !ok {
			t.Fatal("no house")
		}
		h.Tab[0].Cur, h.Tab[1].Cur, h.Tab[1].Old = c, c, c
		times, box := []int{0, 0}, []impl.Term{tupleTerm(atomTerm("come"), tupleTerm(atomTerm("ok"), both, listTerm(tupleTerm(atomTerm("a"), both), tupleTerm(atomTerm("d"), both)))), both, x}
		for at := range h.Overs {
			h.Overs[at].Times = times
			for i := range h.Overs[at].Kids {
				if h.Overs[at].Kids[i].Sub < 0 {
					h.Overs[at].Kids[i].Init = both
				}
			}
		}
		for i := range h.Workers {
			h.Workers[i].Box, h.Workers[i].State = box, both
		}
		h.Workers[0].No = 1
		return h
	}
	h := build()
	odd := build()
	odd.Overs[1].Kids, odd.Overs[1].Pids, odd.Overs[1].Times = odd.Overs[0].Kids, odd.Overs[0].Pids, odd.Overs[0].Pids
	for what, h := range map[string]impl.House{"right": h, "refused": {Tab: h.Tab, Overs: h.Overs, Workers: h.Workers}, "one list of Kids": odd, "one worker": {Workers: slices.Repeat(h.Workers[:1], 3), Overs: slices.Repeat(h.Overs[:1], 3)}} {
		for _, d := range append(allDeeds(t), telling(atomTerm("a"), both), telling(atomTerm("a"), impl.Term{K: 77, L: both.L}), loading("m", moduleOf(t, obeys))) {
			does(t, what, h, d)
		}
	}
	housed(t, "one list", h.Tab, func() []impl.Over {
		overs := plainCopyOvers(h.Overs)
		pids := make([]int, 3)
		for at := range overs {
			overs[at].Pids, overs[at].Times = pids[:len(overs[at].Kids)], nil
			for i := range overs[at].Kids {
				if overs[at].Kids[i].Sub < 0 {
					overs[at].Kids[i].Init = both
				}
			}
		}
		return overs
	}())
	// What is answered may be written into, up to its room, and nothing else changes.
	kept := plainCopyHouse(h)
	for _, d := range []deed{killing(0), working(2), telling(atomTerm("d"), both), renewing(0), purging("k"), passing(5), loading("z", moduleOf(t, obeys)), killing(-1)} {
		got, _ := d.do(h)
		spoilHouses(got)
		if !alikeHouses(h, kept) {
			t.Error(d.what, "hands out what it was given")
		}
	}
}

// spoilHouses writes into all that a house holds, up to its room.
func spoilHouses(h impl.House) {
	for _, o := range h.Overs {
		for _, k := range o.Kids {
			spoilTerms(k.Init.L)
		}
		clear(o.Kids[:cap(o.Kids)])
		spoilNums(o.Pids)
		spoilNums(o.Times)
	}
	for _, w := range h.Workers {
		spoilTerms(w.State.L)
		spoilTerms(w.Box)
	}
	for _, e := range h.Tab {
		for _, c := range []impl.Code{e.Cur, e.Old} {
			for _, f := range c.Fns {
				clear(f.Ins[:cap(f.Ins)])
			}
			clear(c.Fns[:cap(c.Fns)])
			clear(c.Pats[:cap(c.Pats)])
		}
	}
	clear(h.Overs[:cap(h.Overs)])
	clear(h.Workers[:cap(h.Workers)])
	clear(h.Tab[:cap(h.Tab)])
}

// TestHousesHoldTheirTexts: texts over bytes that change behind the call.
func TestHousesHoldTheirTexts(t *testing.T) {
	build := func(of func(s string) string) (impl.House, impl.Module, func(s string) string) {
		m := moduleX(funX(of("handle"), tupleX(atomX(of("ok")), varX(of("W")), listX(tupleX(atomX(of("two")), atomX(of("said"))))), of("S"), of("W")), funX(of("change"), tupleX(atomX(of("ok")), atomX(of("changed"))), of("S")))
		c, ok := impl.Compile(m)
		if !ok {
			t.Fatal("does not compile")
		}
		over := overOf(impl.WayAll, impl.Kid{Name: of("one"), Mod: of("mod"), Init: tupleTerm(atomTerm(of("init"))), Sub: -1}, subKid(of("sub"), 1))
		low := overOf(impl.WayOne, impl.Kid{Name: of("two"), Mod: of("mod"), Init: atomTerm(of("other")), Sub: -1})
		h, ok := impl.HouseNew([]impl.Entry{entryOf(of("mod"), 1, c)}, []impl.Over{over, low})
		if !ok {
			t.Fatal("no house")
		}
		// The answer holds its own; what is asked on holds these.
		h.Tab[0] = entryWithOld(of("mod"), 2, c, c)
		h.Overs[0].Kids, h.Overs[1].Kids = over.Kids, low.Kids
		h.Workers[0].Name, h.Workers[0].Mod, h.Workers[0].State, h.Workers[0].Box = of("one"), of("mod"), atomTerm(of("state")), []impl.Term{atomTerm(of("word"))}
		h.Workers[1].Name, h.Workers[1].Mod, h.Workers[1].No = of("two"), of("mod"), 2
		return h, m, of
	}
	var all [][]byte
	h, m, of := build(func(s string) string {
		all = append(all, []byte(s))
		return unsafe.String(&all[len(all)-1][0], len(s))
	})
	kept, keptModule, same := build(func(s string) string { return s })
	calls := func(h impl.House, m impl.Module, of func(s string) string) []impl.House {
		var l []impl.House
		put := func(h impl.House, code int) { l = append(l, h) }
		put(impl.Tell(h, atomTerm(of("one")), tupleTerm(atomTerm(of("told")))))
		put(impl.Tell(h, atomTerm(of("none")), atomTerm(of("told"))))
		put(impl.Work(h, 0))
		put(impl.Work(h, 1))
		put(impl.Kill(h, 0))
		put(impl.Kill(h, 1))
		put(impl.PassTime(h, 1))
		put(impl.Load(h, of("new"), m))
		put(impl.Load(h, of("mod"), m))
		put(impl.Purge(h, of("mod")))
		put(impl.Purge(h, of("none")))
		put(impl.RenewAt(h, 0))
		put(impl.RenewAt(h, 1))
		h.Next = 0
		put(impl.Kill(h, 0))
		overs := plainCopyOvers(h.Overs)
		for at := range overs {
			overs[at].Pids = make([]int, len(overs[at].Pids))
		}
		fresh, _ := impl.HouseNew(h.Tab, overs)
		return append(l, fresh)
	}
	got, want := calls(h, m, of), calls(kept, keptModule, same)
	for _, b := range all {
		overwrite(b)
	}
	for i := range want {
		if !alikeHouses(got[i], want[i]) {
			t.Errorf("call %d: %s, not %s", i, houseText(got[i]), houseText(want[i]))
		}
	}
	if len(got[2].Workers[1].Box) != 1 || got[11].Workers[0].No != 2 || len(got[14].Workers) != 2 || len(got[7].Tab) != 2 {
		t.Error("too little to tell anything:", houseText(got[2]), houseText(got[11]), houseText(got[14]), houseText(got[7]))
	}
}

// sameHouses: by what comes to an end whatever it is given.
func sameHouses(a impl.House, b impl.House) bool {
	return a.Next == b.Next && a.Now == b.Now && alikeTables(a.Tab, b.Tab) && slices.EqualFunc(a.Overs, b.Overs, sameOvers) && slices.EqualFunc(a.Workers, b.Workers, sameWorkers)
}

// someOf: of very many overseers and workers the first three, and the last ones.
func someOf(h impl.House) impl.House {
	h.Overs = append(slices.Clone(h.Overs[:min(3, len(h.Overs))]), h.Overs[max(0, len(h.Overs)-3):]...)
	h.Workers = append(slices.Clone(h.Workers[:min(3, len(h.Workers))]), h.Workers[max(0, len(h.Workers)-3):]...)
	return h
}

// everyCall: what each function answers of a house, by what is done.
func everyCall(h impl.House, m impl.Module) map[string]func() (impl.House, int) {
	return map[string]func() (impl.House, int){
		"Tell": func() (impl.House, int) { return impl.Tell(h, atomTerm("a"), intTerm(1)) }, "Work": func() (impl.House, int) { return impl.Work(h, 0) }, "Kill": func() (impl.House, int) { return impl.Kill(h, 0) }, "PassTime": func() (impl.House, int) { return impl.PassTime(h, 1) }, "Load": func() (impl.House, int) { return impl.Load(h, "k", m) }, "Purge": func() (impl.House, int) { return impl.Purge(h, "k") }, "RenewAt": func() (impl.House, int) { return impl.RenewAt(h, 0) },
	}
}

// TestHousesOfVeryMuch: very great and very deep arguments, and such as have no end, come to an end.
func TestHousesOfVeryMuch(t *testing.T) {
	m := moduleOf(t, obeys)
	long := strings.Repeat("a", 10000000)
	all := map[string]impl.House{}
	with := func(what string, change func(h *impl.House)) {
		h := houseFrom(t, "one 2 a,s:1; one 2 b")
		h.Workers[0].Box = numTerms(3)
		change(&h)
		all[what] = h
	}
	for what, x := range greatTerms() {
		with("State "+what, func(h *impl.House) { h.Workers[0].State = x })
		with("Box "+what, func(h *impl.House) { h.Workers[1].Box = []impl.Term{x, intTerm(1), x} })
		with("Init "+what, func(h *impl.House) { h.Overs[0].Kids[0].Init = x })
		with("everywhere "+what, func(h *impl.House) {
			h.Workers[0].State, h.Workers[1].State, h.Workers[0].Box, h.Overs[0].Kids[0].Init, h.Overs[1].Kids[0].Init = x, x, []impl.Term{x}, x, x
		})
	}
	with("a long Name", func(h *impl.House) { h.Workers[0].Name, h.Overs[0].Kids[0].Name = long, long })
	with("a long Mod", func(h *impl.House) { h.Workers[0].Mod, h.Overs[0].Kids[0].Mod, h.Tab[0].Name = long, long, long })
	with("a long Box", func(h *impl.House) { h.Workers[0].Box = numTerms(100000) })
	with("many workers", func(h *impl.House) { h.Workers = slices.Repeat(h.Workers, 100000) })
	with("many overseers", func(h *impl.House) { h.Overs = slices.Repeat(h.Overs, 100000) })
	with("many Kids", func(h *impl.House) { h.Overs[0].Kids = slices.Repeat(h.Overs[0].Kids, 500000) })
	with("many Kids very often", func(h *impl.House) {
		h.Overs[0].Kids = slices.Repeat(h.Overs[0].Kids, 50000)
		h.Overs = slices.Repeat(h.Overs, 50000)
	})
	with("many Pids and times very often", func(h *impl.House) {
		h.Overs[0].Pids, h.Overs[0].Times = make([]int, 100000), make([]int, 100000)
		h.Overs = slices.Repeat(h.Overs, 100000)
	})
	with("many entries", func(h *impl.House) { h.Tab = slices.Repeat(h.Tab, 100000) })
	with("many zero entries", func(h *impl.House) { h.Tab = make([]impl.Entry, 1000000) })
	with("many words very often", func(h *impl.House) {
		h.Workers[0].Box = numTerms(100000)
		h.Workers = slices.Repeat(h.Workers, 100000)
	})
	for what, h := range all {
		if impl.HouseOk(h) {
			t.Error(what, "is right")
		}
		if _, ok := impl.HouseNew(h.Tab, h.Overs); ok {
			t.Error(what, "is a new house")
		}
		for name, call := range everyCall(h, m) {
			// All of them copy in the same way, so that one does for what takes long.
			if name != "Kill" && !strings.HasPrefix(what, "everywhere") {
				continue
			}
			got, code := call()
			if code != impl.HouseForm || len(got.Overs) != len(h.Overs) || len(got.Workers) != len(h.Workers) || !sameHouses(someOf(got), someOf(h)) {
				t.Error(what, name, code)
			}
			if &got.Workers[0] == &h.Workers[0] || &got.Overs[0] == &h.Overs[0] || &got.Tab[0] == &h.Tab[0] || &got.Overs[0].Kids[0] == &h.Overs[0].Kids[0] || &got.Overs[0].Pids[0] == &h.Overs[0].Pids[0] || &got.Workers[0].Box[0] == &h.Workers[0].Box[0] || len(h.Workers[0].State.L) > 0 && &got.Workers[0].State.L[0] == &h.Workers[0].State.L[0] || len(h.Overs[0].Kids[0].Init.L) > 0 && &got.Overs[0].Kids[0].Init.L[0] == &h.Overs[0].Kids[0].Init.L[0] {
				t.Error(what, name, "shares memory with its argument")
			}
		}
	}
}

// TestHouseToldVeryMuch: what is handed in beside a house that is right.
func TestHouseToldVeryMuch(t *testing.T) {
	h := houseFrom(t, "one 2 a,s:1; one 2 b")
	long := strings.Repeat("a", 10000000)
	for what, x := range greatTerms() {
		if got, code := impl.Tell(h, atomTerm("a"), x); code != impl.HouseForm || !alikeHouses(got, h) {
			t.Error(what, "told:", code)
		}
		for k := range 7 {
			to := impl.Term{K: k, N: 2, S: "b", L: x.L}
			want := impl.HouseForm
			if k == impl.TAtom || k == impl.TPid {
				want = impl.HouseGood
			}
			if got, code := impl.Tell(h, to, intTerm(1)); code != want || len(got.Workers[1].Box) != map[int]int{impl.HouseGood: 1}[want] {
				t.Error(what, "told to, of the kind", k, code)
			}
		}
	}
	if _, code := impl.Tell(h, atomTerm(long), intTerm(1)); code != impl.HouseNone {
		t.Error("a long name:", code)
	}
	if _, code := impl.Purge(h, long); code != impl.HouseNone {
		t.Error("a long name:", code)
	}
	m := moduleOf(t, obeys)
	if _, code := impl.Load(h, long, m); code != impl.HouseFull {
		t.Error("a long name:", code)
	}
	ring := callX("f", intX(1))
	ring.E[0] = ring
	ring.E[0].E = ring.E
	for what, x := range map[string]impl.Expr{"deep": nestedX(1000000, intX(1)), "wide": tupleX(timesX(1000000, intX(1))...), "doubled": doubledX(200, intX(1)), "a ring": ring, "a long text": atomX(long), "a long name": varX(long)} {
		if got, code := impl.Load(h, "j", moduleX(funX("f", x, "X"))); code != impl.HouseForm || !alikeHouses(got, h) {
			t.Error(what, "loaded:", code)
		}
	}
	if _, code := impl.Load(h, "j", moduleX(slices.Repeat(m.Funs, 1000000)...)); code != impl.HouseForm {
		t.Error("very many functions:", code)
	}
}

// TestHousesOfPatternsWithoutEnd: patterns that no Ins names may be very deep, share very often, or have no end, in code that is right.
func TestHousesOfPatternsWithoutEnd(t *testing.T) {
	m := moduleOf(t, obeys)
	for i, p := range endlessPats(3000) {
		h := tellsAll(t, houseFrom(t, "one 2 a,s:1; one 2 b"), "a<{add, 5}")
		h.Tab[0].Cur.Pats = append(h.Tab[0].Cur.Pats, p, p)
		h.Tab = append(h.Tab, entryOf("z", 1, impl.Code{Pats: []impl.Pat{p, p}}))
		old := h.Tab[0].Cur
		h.Tab[0] = entryWithOld("k", 2, h.Tab[0].Cur, old)
		if !impl.HouseOk(h) {
			t.Fatal(i, "is not right")
		}
		for name, call := range everyCall(h, m) {
			got, code := call()
			want := impl.HouseGood
			if name == "Load" {
				want = impl.HouseFull
			}
			if code != want || !impl.HouseOk(got) || !impl.SameCode(got.Tab[0].Cur, old) || !impl.SameCode(got.Tab[1].Cur, h.Tab[1].Cur) || got.Tab[0].HasOld && !impl.SameCode(got.Tab[0].Old, old) {
				t.Error(i, name, code)
			}
			if len(p.E) > 0 && (&got.Tab[1].Cur.Pats[0].E[0] == &p.E[0] || &got.Tab[1].Cur.Pats[1].E[0] == &p.E[0]) {
				t.Error(i, name, "shares memory with its argument")
			}
		}
		fresh, ok := impl.HouseNew(h.Tab, oversFrom(t, "one 2 a"))
		if !ok || !alikeTables(fresh.Tab, h.Tab) || len(p.E) > 0 && &fresh.Tab[1].Cur.Pats[0].E[0] == &p.E[0] {
			t.Error(i, "HouseNew:", ok)
		}
	}
}

// TestHousesOfVeryDeepTerms: deeper than the program's own stack could go.
func TestHousesOfVeryDeepTerms(t *testing.T) {
	const deep = 2000000
	x := nestedTerm(impl.TTuple, deep, intTerm(1))
	h := houseFrom(t, "one 2 a")
	h.Workers[0].State, h.Workers[0].Box, h.Overs[0].Kids[0].Init = x, []impl.Term{x}, x
	got, code := impl.Kill(h, 0)
	if code != impl.HouseForm || impl.HouseOk(h) {
		t.Fatal(code)
	}
	if _, ok := impl.HouseNew(h.Tab, h.Overs); ok {
		t.Fatal("a new house")
	}
	for what, own := range map[string]impl.Term{"State": got.Workers[0].State, "Box": got.Workers[0].Box[0], "Init": got.Overs[0].Kids[0].Init} {
		depth := 0
		for part := x; len(part.L) > 0 && len(own.L) > 0 && &own.L[0] != &part.L[0]; own, part = own.L[0], part.L[0] {
			depth++
		}
		if depth != deep || own.N != 1 {
			t.Error(what, "shares memory, or is another one,", depth, "deep")
		}
	}
	good := houseFrom(t, "one 2 a")
	if same, code := impl.Tell(good, atomTerm("a"), x); code != impl.HouseForm || !alikeHouses(same, good) {
		t.Error("Tell:", code)
	}
}

// TestHousesOfMostWork: the greatest arguments that are right: 57 workers, each of the old code, with 20 words and terms of 300, ten modules of two versions.
func TestHousesOfMostWork(t *testing.T) {
	var text []string
	for at := range 8 {
		var kids []string
		for i := range 8 {
			kids = append(kids, fmt.Sprintf("k%d%d", at, i))
		}
		if at < 7 {
			kids[7-at] = fmt.Sprintf("s%d:%d", at, at+1)
		}
		text = append(text, "all 20 "+strings.Join(kids, ","))
	}
	overs := oversFrom(t, strings.Join(text, ";"))
	most := codeOfSteps("handle", 2, 3000, "match 0 LAST; atom ok; load 0; tuple 2; ret; fail")
	most.Pats = append(most.Pats, timesP(100, manySlots(280))...)
	for i := range 8 {
		most.Fns = append(most.Fns, impl.Fn{Name: fmt.Sprint("f", i), Args: 4, Slots: 400, Ins: append(jumps(0, 1499), asm("fail")...)})
	}
	most.Fns = append(most.Fns, fnOf("change", 1, 1, "atom ok; load 0; tuple 2; ret"))
	var l []impl.Entry
	for i := range 10 {
		l = append(l, entryWithOld(twentySmall[:19]+strconv.Itoa(i), 10000, most, most))
	}
	for at := range overs {
		for i := range overs[at].Kids {
			if k := &overs[at].Kids[i]; k.Sub < 0 {
				k.Mod, k.Init = l[9].Name, countedTerm(298)
			}
		}
		overs[at].MaxT = 1000
	}
	h, ok := impl.HouseNew(l, overs)
	if !ok || len(h.Workers) != 57 {
		t.Fatal(ok, len(h.Workers))
	}
	h.Next, h.Now = 890000, 100000000
	for i := range h.Workers {
		w := &h.Workers[i]
		w.No, w.Box = 9999, timesTerm(20, countedTerm(300))
	}
	done, code := impl.Work(h, 56)
	if code != impl.HouseGood || len(done.Workers[56].Box) != 19 || !alikeTerms(done.Workers[56].State, countedTerm(298)) {
		t.Error("Work:", code)
	}
	if _, code = impl.Tell(h, pidTerm(57), countedTerm(300)); code != impl.HouseFull {
		t.Error("Tell:", code)
	}
	if got, code := impl.RenewAt(h, 56); code != impl.HouseGood || got.Workers[56].No != 10000 || len(got.Workers[56].Box) != 20 {
		t.Error("RenewAt:", code)
	}
	if got, code := impl.Kill(h, 0); code != impl.HouseGood || got.Next != 890057 || len(got.Workers) != 57 || got.Workers[0].Pid != 890000 {
		t.Error("Kill:", code, got.Next)
	}
	if _, code = impl.PassTime(h, 1); code != impl.HouseFull {
		t.Error("PassTime:", code)
	}
	if _, code = impl.Load(h, l[9].Name, moduleOf(t, obeys)); code != impl.HouseFull {
		t.Error("Load:", code)
	}
	// The first one takes all with it.
	if got, code := impl.Purge(h, l[9].Name); code != impl.HouseGood || got.Next != 890057 || got.Tab[9].HasOld || len(got.Overs[0].Times) != 1 {
		t.Error("Purge:", code, got.Next)
	}
	for at := range h.Overs {
		h.Overs[at].Way = impl.WayOne
	}
	// Each one falls alone.
	got, code := impl.Purge(h, l[9].Name)
	if code != impl.HouseGood || got.Next != 890057 || len(got.Workers) != 57 || len(got.Overs[0].Times) != 7 || len(got.Overs[7].Times) != 8 {
		t.Error("Purge:", code, got.Next, got.Overs[0].Times)
	}
	for at := range h.Overs {
		h.Overs[at].MaxR = 7
	}
	// The last overseer gives up at its eighth, and the one above at its own, up to the first, which has seven Kids of its own.
	got, code = impl.Purge(h, l[9].Name)
	if code != impl.HouseGood || !impl.HouseOk(got) || len(got.Workers) != 0 || !got.Overs[0].Down || !got.Overs[7].Down || got.Next < 890100 || got.Next > 893139 {
		t.Error("Purge:", code, got.Next, whoText(got))
	}
}
