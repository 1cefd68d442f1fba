package tests

import (
	"fmt"
	"math"
	"math/rand"
	"slices"
	"strings"
	"testing"
	"unsafe"

	"loop.example/g00236/impl"
)

// workKid: one of the module k.
func workKid(name string) impl.Kid {
	return impl.Kid{Name: name, Mod: "k", Init: intTerm(0), Sub: -1}
}

func subKid(name string, at int) impl.Kid { return impl.Kid{Name: name, Sub: at} }

// overOf: 2 restarts within 10, and nobody has a worker.
func overOf(way int, kids ...impl.Kid) impl.Over {
	return impl.Over{Way: way, MaxR: 2, MaxT: 10, Kids: kids, Pids: make([]int, len(kids))}
}

// overAt: an overseer of one Kid that restarted at these times.
func overAt(maxR int, maxT int, times ...int) impl.Over {
	o := overOf(impl.WayOne, workKid("a"))
	o.MaxR, o.MaxT, o.Times = maxR, maxT, times
	return o
}

// numberedKids: kids of the names of a letter and the places from 0 on.
func numberedKids(letter string, many int) []impl.Kid {
	var l []impl.Kid
	for i := range many {
		l = append(l, workKid(fmt.Sprint(letter, i)))
	}
	return l
}

// oversIn: an overseer for each word, of a Kid for each part of it (by `,`): a name, or a name, `:`, and a Sub.
func oversIn(t *testing.T, text string) []impl.Over {
	t.Helper()
	var l []impl.Over
	for _, word := range strings.Fields(text) {
		var kids []impl.Kid
		for part := range strings.SplitSeq(word, ",") {
			name, place, is := strings.Cut(part, ":")
			kid := workKid(name)
			if is {
				kid = subKid(name, 0)
				if _, err := fmt.Sscan(place, &kid.Sub); err != nil {
					t.Fatal(text, err)
				}
			}
			kids = append(kids, kid)
		}
		l = append(l, overOf(1+len(l)%3, kids...))
	}
	return l
}

func alikeKids(a impl.Kid, b impl.Kid) bool {
	return a.Name == b.Name && a.Mod == b.Mod && a.Sub == b.Sub && alikeTerms(a.Init, b.Init)
}

func alikeOvers(a impl.Over, b impl.Over) bool {
	return a.Way == b.Way && a.MaxR == b.MaxR && a.MaxT == b.MaxT && a.Down == b.Down && slices.EqualFunc(a.Kids, b.Kids, alikeKids) && slices.Equal(a.Pids, b.Pids) && slices.Equal(a.Times, b.Times)
}

func plainCopyOver(o impl.Over) impl.Over {
	var kids []impl.Kid
	for _, k := range o.Kids {
		k.Init.L = plainCopyTerms(k.Init.L)
		kids = append(kids, k)
	}
	o.Kids = kids
	o.Pids = append([]int{}, o.Pids...)
	o.Times = append([]int{}, o.Times...)
	return o
}

func plainCopyOvers(l []impl.Over) []impl.Over {
	var own []impl.Over
	for _, o := range l {
		own = append(own, plainCopyOver(o))
	}
	return own
}

func overListSpans(o impl.Over) []span {
	all := slices.Concat(listSpan(o.Kids), listSpan(o.Pids), listSpan(o.Times))
	for _, k := range o.Kids {
		all = append(all, termListSpans(k.Init.L)...)
	}
	return all
}

func overSpans(o impl.Over) []span {
	all := overListSpans(o)
	for _, k := range o.Kids {
		all = slices.Concat(all, textSpan(k.Name), textSpan(k.Mod), textSpan(k.Init.S), termTextSpans(k.Init.L))
	}
	return all
}

// overApart: an overseer shares no memory with the argument, and no two of its lists share any.
func overApart(t *testing.T, what string, got impl.Over, arg impl.Over) {
	t.Helper()
	if meeting(overSpans(got), append([]span{}, overSpans(arg)...)) {
		t.Fatalf("%s: the answer shares memory with an argument: %+v", what, got)
	}
	if meeting(overListSpans(got), nil) {
		t.Fatalf("%s: two lists of the answer share memory: %+v", what, got)
	}
}

// plainOverOk: the chapter's words once more.
func plainOverOk(o impl.Over) bool {
	if !slices.Contains([]int{1, 2, 3}, o.Way) || o.MaxR < 0 || o.MaxR > 20 || o.MaxT < 1 || o.MaxT > 1000 || len(o.Kids) == 0 || len(o.Kids) > 8 || len(o.Pids) != len(o.Kids) || len(o.Times) > o.MaxR {
		return false
	}
	for i, k := range o.Kids {
		worker := k.Sub == -1 && plainAtom.MatchString(k.Mod) && plainTermOk(k.Init)
		other := k.Sub >= 0 && k.Mod == "" && alikeTerms(k.Init, impl.Term{})
		if !plainAtom.MatchString(k.Name) || !worker && !other || o.Pids[i] < 0 {
			return false
		}
	}
	for i := range o.Times {
		for k := range i {
			if o.Times[k] > o.Times[i] {
				return false
			}
		}
	}
	return true
}

// plainOversOk goes by who names whom.
func plainOversOk(l []impl.Over) bool {
	if len(l) == 0 || len(l) > 8 {
		return false
	}
	names, above := map[string]int{}, map[int][]int{}
	for at, o := range l {
		if !plainOverOk(o) {
			return false
		}
		for _, k := range o.Kids {
			names[k.Name]++
			if k.Sub >= 0 {
				above[k.Sub] = append(above[k.Sub], at)
			}
		}
	}
	for _, many := range names {
		if many > 1 {
			return false
		}
	}
	for at := 1; at < len(l); at++ {
		if len(above[at]) != 1 || above[at][0] >= at {
			return false
		}
		delete(above, at)
	}
	return len(above) == 0
}

func plainHit(o impl.Over, now int) (impl.Over, bool) {
	own := plainCopyOver(o)
	if !plainOverOk(o) || now < 0 || now > 100000000 {
		return own, false
	}
	times := []int{now}
	for i := len(o.Times) - 1; i >= 0; i-- {
		if o.Times[i] > now {
			return own, false
		}
		if o.Times[i]+o.MaxT > now {
			times = append([]int{o.Times[i]}, times...)
		}
	}
	if len(times) > o.MaxR {
		return own, false
	}
	own.Times = times
	return own, true
}

func plainWhom(way int, n int, i int) []int {
	var l []int
	for at := range min(max(n, 0), 101) {
		if n <= 100 && i >= 0 && i < n && (way == 1 && at == i || way == 2 || way == 3 && at >= i) {
			l = append(l, at)
		}
	}
	return l
}

// overIs: what OverOk answers is this, and as the witness has it; it leaves its argument as it is.
func overIs(t *testing.T, what string, o impl.Over, want bool) {
	t.Helper()
	kept := plainCopyOver(o)
	if got, plain := impl.OverOk(o), plainOverOk(o); got != want || plain != want {
		t.Errorf("%s: %v, the witness %v, not %v: %+v", what, got, plain, want, o)
	}
	if !alikeOvers(o, kept) {
		t.Errorf("%s: OverOk wrote into its argument", what)
	}
}

func oversAre(t *testing.T, what string, l []impl.Over, want bool) {
	t.Helper()
	kept := plainCopyOvers(l)
	if got, plain := impl.OversOk(l), plainOversOk(l); got != want || plain != want {
		t.Errorf("%s: %v, the witness %v, not %v: %+v", what, got, plain, want, l)
	}
	if !slices.EqualFunc(l, kept, alikeOvers) {
		t.Errorf("%s: OversOk wrote into its argument", what)
	}
}

// hits: what Hit answers is as the witness has it, and in memory of its own; it leaves its argument as it is. What may restart stays right, and all but its Times is as it was; what may not is as it was in all.
func hits(t *testing.T, what string, o impl.Over, now int) (impl.Over, bool) {
	t.Helper()
	kept := plainCopyOver(o)
	want, wanted := plainHit(o, now)
	got, ok := impl.Hit(o, now)
	if ok != wanted || !alikeOvers(got, want) {
		t.Fatalf("%s: Hit of %+v at %d: %v, %+v, not %v, %+v", what, o, now, ok, got, wanted, want)
	}
	if !alikeOvers(o, kept) {
		t.Fatalf("%s: Hit wrote into its argument", what)
	}
	overApart(t, what, got, o)
	if !ok {
		if !alikeOvers(got, o) {
			t.Fatalf("%s: not the overseer as it was beside false: %+v", what, got)
		}
		return got, ok
	}
	if !impl.OverOk(got) || len(got.Times) == 0 || got.Times[len(got.Times)-1] != now || got.Times[0] <= now-got.MaxT {
		t.Fatalf("%s: not right any more, or other Times than those within: %+v", what, got)
	}
	kept.Times = got.Times
	if !alikeOvers(got, kept) {
		t.Fatalf("%s: more than its Times is another: %+v", what, got)
	}
	return got, ok
}

// goWith: what Whom answers is as the witness has it, and new each time.
func goWith(t *testing.T, way int, n int, i int) []int {
	t.Helper()
	want, got, other := plainWhom(way, n, i), impl.Whom(way, n, i), impl.Whom(way, n, i)
	if !slices.Equal(got, want) {
		t.Fatalf("Whom(%d, %d, %d): %v, not %v", way, n, i, got, want)
	}
	if meeting(listSpan(got), append([]span{}, listSpan(other)...)) {
		t.Fatalf("Whom(%d, %d, %d): two answers share memory", way, n, i)
	}
	return got
}

// notOvers: overseers that are not right, each by one fault.
func notOvers() map[string]impl.Over {
	l := map[string]impl.Over{"the zero one": {}, "no Kids": overOf(1), "9 Kids": overOf(1, numberedKids("a", 9)...), "100 Kids": overOf(1, numberedKids("a", 100)...)}
	with := func(what string, change func(o *impl.Over)) {
		o := overOf(impl.WayAll, workKid("a"), subKid("s", 1), workKid("b"))
		o.Pids, o.Times = []int{3, 0, 4}, []int{5, 7}
		change(&o)
		l[what] = o
	}
	for _, n := range []int{math.MinInt, -1, 0, 4, 5, 257, 1<<32 + 1, math.MaxInt} {
		with(fmt.Sprint("the Way ", n), func(o *impl.Over) { o.Way = n })
	}
	for _, n := range []int{math.MinInt, -1, 0, 1, 21, 1<<32 + 2, math.MaxInt} {
		with(fmt.Sprint("the MaxR ", n), func(o *impl.Over) { o.MaxR = n })
	}
	for _, n := range []int{math.MinInt, -1, 0, 1001, 1<<32 + 10, math.MaxInt} {
		with(fmt.Sprint("the MaxT ", n), func(o *impl.Over) { o.MaxT = n })
	}
	for at := range 3 {
		for _, n := range []int{math.MinInt, -2, -1} {
			with(fmt.Sprint("the Pid ", n, " at ", at), func(o *impl.Over) { o.Pids[at] = n })
		}
		for _, s := range []string{"", "A", "_", "_a", "0a", "a b", "a\x00", "ä", "k.", twentySmall + "u", strings.Repeat("a", 1000)} {
			with(fmt.Sprintf("the Name %q at %d", s, at), func(o *impl.Over) { o.Kids[at].Name = s })
			with(fmt.Sprintf("the Mod %q at %d", s, 2*(at/2)), func(o *impl.Over) { o.Kids[2*(at/2)].Mod = s })
		}
		for i, x := range wrongTerms() {
			with(fmt.Sprint("a wrong Init ", i, " at ", 2*(at/2)), func(o *impl.Over) { o.Kids[2*(at/2)].Init = x })
		}
		for _, n := range []int{math.MinInt, -3, -2} {
			with(fmt.Sprint("the Sub ", n, " at ", at), func(o *impl.Over) { o.Kids[at].Sub = n })
		}
	}
	for _, n := range []int{0, 1, 2, math.MaxInt} {
		with(fmt.Sprint("a Sub ", n, " beside Mod and Init"), func(o *impl.Over) { o.Kids[0].Sub = n })
		with(fmt.Sprint("a Sub ", n, " beside a Mod"), func(o *impl.Over) { o.Kids[0] = impl.Kid{Name: "a", Mod: "k", Sub: n} })
		with(fmt.Sprint("a Sub ", n, " beside an Init"), func(o *impl.Over) { o.Kids[0] = impl.Kid{Name: "a", Init: intTerm(0), Sub: n} })
	}
	for i, x := range []impl.Term{{K: 1}, {N: 1}, {N: -1}, {S: "a"}, {L: []impl.Term{{}}}, {L: make([]impl.Term, 3)}, listTerm(), {K: -1}} {
		with(fmt.Sprint("an Init beside a Sub ", i), func(o *impl.Over) { o.Kids[1].Init = x })
	}
	with("neither a worker nor a Sub", func(o *impl.Over) { o.Kids[1].Sub = -1 })
	with("no Mod", func(o *impl.Over) { o.Kids[1] = impl.Kid{Name: "s", Init: intTerm(1), Sub: -1} })
	with("no Init", func(o *impl.Over) { o.Kids[1] = impl.Kid{Name: "s", Mod: "k", Sub: -1} })
	with("a Pid fewer", func(o *impl.Over) { o.Pids = o.Pids[:2] })
	with("a Pid more", func(o *impl.Over) { o.Pids = append(o.Pids, 5) })
	with("no Pids", func(o *impl.Over) { o.Pids = nil })
	with("Kids without Pids", func(o *impl.Over) { o.Kids, o.Pids = nil, nil })
	with("Pids without Kids", func(o *impl.Over) { o.Kids = nil })
	with("Times that fall", func(o *impl.Over) { o.Times = []int{7, 6} })
	with("Times that fall far", func(o *impl.Over) { o.Times = []int{math.MaxInt, math.MinInt} })
	with("Times that fall at the end", func(o *impl.Over) { o.MaxR, o.Times = 20, []int{1, 2, 3, 3, 2} })
	with("Times that fall at the beginning", func(o *impl.Over) { o.MaxR, o.Times = 20, []int{2, 1, 2, 3, 3} })
	with("a time more", func(o *impl.Over) { o.Times = []int{5, 6, 7} })
	with("21 times", func(o *impl.Over) { o.MaxR, o.Times = 20, make([]int, 21) })
	with("a time with a MaxR of 0", func(o *impl.Over) { o.MaxR, o.Times = 0, []int{5} })
	return l
}

func TestOverConstants(t *testing.T) {
	if impl.WayOne != 1 || impl.WayAll != 2 || impl.WayRest != 3 {
		t.Error(impl.WayOne, impl.WayAll, impl.WayRest)
	}
}

func TestOverOk(t *testing.T) {
	for what, o := range notOvers() {
		overIs(t, what, o, false)
		o.Down = !o.Down
		overIs(t, what+", Down", o, false)
	}
	for n := -3; n < 1010; n++ {
		o := overOf(n, workKid("a"))
		overIs(t, fmt.Sprint("the Way ", n), o, n >= 1 && n <= 3)
		o = overAt(n, 10)
		overIs(t, fmt.Sprint("the MaxR ", n), o, n >= 0 && n <= 20)
		o = overAt(2, n)
		overIs(t, fmt.Sprint("the MaxT ", n), o, n >= 1 && n <= 1000)
		o = overOf(1, workKid("a"), subKid("s", n))
		overIs(t, fmt.Sprint("the Sub ", n), o, n >= 0)
		o = overOf(1, workKid("a"))
		o.Kids[0].Sub = n
		overIs(t, fmt.Sprint("the Sub of a worker ", n), o, n == -1)
		o.Kids[0].Sub, o.Pids[0] = -1, n
		overIs(t, fmt.Sprint("the Pid ", n), o, n >= 0)
	}
	for many := range 12 {
		for pids := range 12 {
			o := overOf(3, numberedKids("a", many)...)
			o.Pids = make([]int, pids)
			overIs(t, fmt.Sprint(many, " Kids, ", pids, " Pids"), o, many == pids && many >= 1 && many <= 8)
		}
	}
	for maxR := range 23 {
		for many := range 23 {
			overIs(t, fmt.Sprint(many, " times, MaxR ", maxR), overAt(maxR, 1, slices.Repeat([]int{5}, many)...), maxR <= 20 && many <= maxR)
		}
	}
}

// TestOverOkAtEdges: what is right though it looks odd, as the chapter says nothing against it.
func TestOverOkAtEdges(t *testing.T) {
	for _, down := range []bool{false, true} {
		o := overOf(impl.WayRest, workKid("a"), subKid("s", 1), workKid("b"))
		o.Down = down
		overIs(t, "nobody there", o, true)
		o.Pids = []int{1, 2, 3}
		overIs(t, "a Pid at a Sub", o, true)
		o.Pids = []int{7, 7, 7}
		overIs(t, "one Pid often", o, true)
		o.Pids = []int{0, 1000000, math.MaxInt}
		overIs(t, "very great Pids", o, true)
		for _, times := range [][]int{{}, {0}, {5}, {5, 5}, {0, 100000000}, {100000001, math.MaxInt}, {-1, 0}, {math.MinInt, math.MaxInt}, {math.MinInt, math.MinInt}, {1, 2000}} {
			o.Times = times
			overIs(t, "Times that do not fall", o, true)
		}
		o.Kids[2].Name = "a"
		overIs(t, "two of one Name", o, true)
		o.Kids[2] = subKid("b", 1)
		overIs(t, "two of one Sub", o, true)
		o.Kids[2] = subKid("b", 0)
		overIs(t, "the Sub 0", o, true)
		o.Kids[2] = subKid("b", math.MaxInt)
		overIs(t, "a very great Sub", o, true)
		o.Kids[2] = impl.Kid{Name: "b", Init: impl.Term{L: []impl.Term{}}, Sub: 5}
		overIs(t, "an empty list in no Init", o, true)
	}
	for _, s := range []string{"a", "case", "a_0", twentySmall} {
		overIs(t, "the Name "+s, overOf(1, workKid(s)), true)
		overIs(t, "the Name of a Sub "+s, overOf(1, subKid(s, 3)), true)
		overIs(t, "the Mod "+s, overOf(1, impl.Kid{Name: "a", Mod: s, Init: intTerm(1), Sub: -1}), true)
	}
	for _, x := range append(wideAndDeep(), risingTerms()...) {
		overIs(t, "a right Init", overOf(1, impl.Kid{Name: "a", Mod: "k", Init: x, Sub: -1}), true)
		overIs(t, "a right Init beside a Sub", overOf(1, impl.Kid{Name: "a", Init: x, Sub: 1}), false)
	}
}

func TestOversOk(t *testing.T) {
	for text, want := range map[string]bool{
		"": false, "a": true, "a,b,c": true, "s:1 a": true, "a,s:1,b c": true, "a,s:1 b,u:2 c": true, "s:1,u:2 a b": true, "u:2,s:1 a b": true, "s:1,u:3 v:2 a b": true, "s:3,u:1 v:2 a b": true,
		"a,b,c,d,e,f,g,h": true, "a,b,c,d,e,f,g,s:1 h": true,
		// A Sub below its own place, at it, and past the list.
		"s:0": false, "a,s:0": false, "s:1 u:0": false, "s:1 u:1": false, "s:1,u:2 a v:1": false, "s:1,u:2 a v:2": false, "s:1 u:2 v:1": false, "s:1 u:2 v:2": false, "s:1": false, "s:2": false, "s:1 u:2": false, "s:1 a,u:3": false, "s:1 a,u:9223372036854775807": false, "a,s:9223372036854775807": false,
		// A place that is the Sub of no Kid, and of two.
		"a b": false, "s:1 a b": false, "s:2 a b": false, "a s:2 b": false, "a,s:1 b c": false, "s:1,u:1 a": false, "s:1,u:2 v:2 a": false, "s:1,u:2,v:2 a b": false, "s:2,u:2 a b": false,
		// Two Kids of one Name.
		"a,a": false, "a,b,a": false, "a,s:1 a": false, "a,s:1 s": false, "a,s:1 b,s": false, "s:1,s:2 a b": false, "s:1,u:2 a a": false, "s:1,u:2 a s": false, "s:1,u:2 a u": false, "a,s:1 b,u:2 a": false, "s:1,u:2 a,b c,b": false, "a,s:1 aa": true, "a,s:1 a0": true,
		// Not right in itself.
		"A": false, "s:1 A": false, "s:1,S:2 a b": false, "s:-2": false, "a,s:1 b,u:-2": false, "a,b,c,d,e,f,g,h,i": false, "s:1 a,b,c,d,e,f,g,h,i": false,
	} {
		oversAre(t, text, oversIn(t, text), want)
	}
	oversAre(t, "an empty list", []impl.Over{}, false)
}

// TestOversOkByHowMany: side by side, and each below the one ahead.
func TestOversOkByHowMany(t *testing.T) {
	for many := 1; many < 12; many++ {
		var text []string
		for at := 1; at < many; at++ {
			text = append(text, fmt.Sprintf("s%d:%d", at, at))
		}
		wide := "a," + strings.Join(text, ",")
		if many == 1 {
			wide = "a"
		}
		if many == 9 {
			wide = wide[2:]
		}
		for at := 1; at < many; at++ {
			wide += fmt.Sprint(" w", at)
		}
		oversAre(t, wide, oversIn(t, wide), many <= 8)
		deep := strings.Join(append(text, "a"), " ")
		oversAre(t, deep, oversIn(t, deep), many <= 8)
		back := strings.Split(deep, " ")
		slices.Reverse(back)
		oversAre(t, strings.Join(back, " "), oversIn(t, strings.Join(back, " ")), many == 1)
	}
	// Nobody is left out: 8 overseers of 8 Kids each, but for one of each that is the next one.
	var full []impl.Over
	for at := range 8 {
		kids := numberedKids(string(rune('a'+at)), 8)
		if at < 7 {
			kids[at] = subKid("s"+kids[at].Name, at+1)
		}
		full = append(full, overOf(1, kids...))
	}
	oversAre(t, "64 Kids", full, true)
	for at := range 64 {
		for other := range at {
			kid := &full[at/8].Kids[at%8]
			kept := kid.Name
			kid.Name = full[other/8].Kids[other%8].Name
			if impl.OversOk(full) {
				t.Error(at, "has the Name of", other)
			}
			kid.Name = kept
		}
	}
	for at := range full {
		full[at].Down, full[at].Times, full[at].Pids = true, []int{at, math.MaxInt}, slices.Repeat([]int{1000000}, 8)
	}
	oversAre(t, "Down, with Times and Pids", full, true)
}

// TestOversOkOfWrongOnes: one that is not OverOk, at any place.
func TestOversOkOfWrongOnes(t *testing.T) {
	for what, o := range notOvers() {
		for at := range 3 {
			l := oversIn(t, "x,y:1 z,v:2 u")
			l[at] = o
			oversAre(t, what, l, false)
			if at == 2 {
				continue
			}
			// The same with those below it there.
			l[at].Kids = append([]impl.Kid{subKid("y", at+1)}, l[at].Kids...)
			if len(o.Pids) == len(o.Kids) {
				l[at].Pids = append([]int{0}, l[at].Pids...)
			}
			if len(l[at].Kids) == 1 {
				continue
			}
			oversAre(t, what+", with those below", l, false)
		}
	}
}

func TestHit(t *testing.T) {
	for _, x := range []struct {
		o    impl.Over
		now  int
		want []int
		ok   bool
	}{
		{overAt(2, 10), 0, []int{0}, true}, {overAt(2, 10), 5, []int{5}, true}, {overAt(2, 10), 100000000, []int{100000000}, true},
		{overAt(2, 10), -1, nil, false}, {overAt(2, 10), 100000001, nil, false}, {overAt(2, 10), math.MinInt, nil, false}, {overAt(2, 10), math.MaxInt, nil, false},
		// Just at the end of the time, and one ahead of it and behind it.
		{overAt(2, 10, 5), 14, []int{5, 14}, true}, {overAt(2, 10, 5), 15, []int{15}, true}, {overAt(2, 10, 5), 16, []int{16}, true},
		{overAt(1, 10, 5), 14, []int{5}, false}, {overAt(1, 10, 5), 15, []int{15}, true}, {overAt(1, 10, 5), 16, []int{16}, true},
		{overAt(2, 10, 5, 6), 14, []int{5, 6}, false}, {overAt(2, 10, 5, 6), 15, []int{6, 15}, true}, {overAt(2, 10, 5, 6), 16, []int{16}, true}, {overAt(2, 10, 5, 5), 15, []int{15}, true}, {overAt(2, 10, 5, 5), 14, []int{5, 5}, false},
		{overAt(1, 1, 5), 5, []int{5}, false}, {overAt(1, 1, 5), 6, []int{6}, true}, {overAt(2, 1, 5), 5, []int{5, 5}, true}, {overAt(2, 1, 5, 5), 5, []int{5, 5}, false}, {overAt(2, 1, 5, 5), 6, []int{6}, true},
		{overAt(1, 1000, 5), 1004, []int{5}, false}, {overAt(1, 1000, 5), 1005, []int{1005}, true}, {overAt(1, 1000, 0), 999, []int{0}, false}, {overAt(1, 1000, 0), 1000, []int{1000}, true},
		{overAt(1, 1000, 99999000), 100000000, []int{100000000}, true}, {overAt(1, 1000, 99999001), 100000000, []int{99999001}, false}, {overAt(2, 1000, 99999001), 100000000, []int{99999001, 100000000}, true},
		// Below the last of Times, and just it.
		{overAt(3, 10, 5), 4, []int{5}, false}, {overAt(3, 10, 5), 5, []int{5, 5}, true}, {overAt(3, 10, 5, 8), 7, []int{5, 8}, false}, {overAt(3, 10, 5, 8), 8, []int{5, 8, 8}, true}, {overAt(3, 10, 5, 8), 5, []int{5, 8}, false}, {overAt(3, 10, 5), 0, []int{5}, false}, {overAt(3, 10, 0), 0, []int{0, 0}, true},
		{overAt(3, 10, 100000000), 100000000, []int{100000000, 100000000}, true}, {overAt(3, 10, 100000001), 100000000, []int{100000001}, false}, {overAt(3, 10, 100000001), 100000001, []int{100000001}, false}, {overAt(3, 10, math.MaxInt), 5, []int{math.MaxInt}, false}, {overAt(3, 10, 1, math.MaxInt), math.MaxInt, []int{1, math.MaxInt}, false},
		// Far behind, even ahead of all time.
		{overAt(1, 10, -5), 4, []int{-5}, false}, {overAt(1, 10, -5), 5, []int{5}, true}, {overAt(1, 10, math.MinInt), 0, []int{0}, true}, {overAt(1, 1000, math.MinInt), 100000000, []int{100000000}, true}, {overAt(3, 1000, math.MinInt, -1000, -999), 0, []int{-999, 0}, true}, {overAt(3, 10, -5), -5, []int{-5}, false}, {overAt(3, 10, -5), -1, []int{-5}, false},
		// None at all may be.
		{overAt(0, 10), 0, nil, false}, {overAt(0, 1), 5, nil, false}, {overAt(0, 1000), 100000000, nil, false},
	} {
		for _, down := range []bool{false, true} {
			x.o.Down = down
			got, ok := hits(t, "an edge", x.o, x.now)
			if ok != x.ok || !slices.Equal(got.Times, x.want) || got.Down != down {
				t.Errorf("%+v at %d: %v, %v", x.o, x.now, ok, got)
			}
		}
	}
}

// TestHitByHowMany: with just MaxR times behind it, one fewer, and as many of them past.
func TestHitByHowMany(t *testing.T) {
	for maxR := range 21 {
		for _, maxT := range []int{1, 2, 10, 1000} {
			for past := range maxR + 1 {
				for within := range maxR + 1 - past {
					o := overOf(impl.WayAll, numberedKids("a", 1+maxR%8)...)
					o.MaxR, o.MaxT = maxR, maxT
					o.Times = append(slices.Repeat([]int{5000 - maxT}, past), slices.Repeat([]int{5001 - maxT}, within)...)
					got, ok := hits(t, "how many", o, 5000)
					if ok != (within < maxR) || ok && len(got.Times) != within+1 || !ok && len(got.Times) != past+within {
						t.Fatal(maxR, maxT, past, within, ok, got.Times)
					}
				}
			}
		}
	}
}

// TestHitRefused: what is not right is as it was, with all its fields, at any time.
func TestHitRefused(t *testing.T) {
	for what, o := range notOvers() {
		for _, now := range []int{math.MinInt, -1, 0, 5, 7, 14, 1000, 100000000, 100000001, math.MaxInt} {
			if _, ok := hits(t, what, o, now); ok {
				t.Error(what, "may restart at", now)
			}
		}
	}
	full := overOf(impl.WayRest, workKid("a"), subKid("s", 2), impl.Kid{Name: "b", Mod: "m", Init: countedTerm(300), Sub: -1})
	full.Pids, full.Times, full.Down = []int{4, 0, 9}, []int{1, 2}, true
	for _, now := range []int{math.MinInt, -1, 0, 1, 2, 10, 11, 12, 13, 100000001, math.MaxInt} {
		if _, ok := hits(t, "full", full, now); ok != (now >= 11 && now <= 13) {
			t.Error(now, ok)
		}
	}
}

// TestNoneTooOften: promise 14, by all restarts that ever were: within any MaxT are no more than MaxR, and none is refused that might be.
func TestNoneTooOften(t *testing.T) {
	r := rand.New(rand.NewSource(14))
	good, refused := 0, 0
	for range 300 {
		maxT := []int{1, 2, 3, 10, 50, 1000}[r.Intn(6)]
		o := overAt(r.Intn(21), maxT)
		now := []int{0, 0, 7, 99999000}[r.Intn(4)]
		var restarts []int
		for range 60 {
			now += r.Intn(2 + maxT/(1+r.Intn(10)))
			within := 0
			for _, at := range restarts {
				if at+maxT > now {
					within++
				}
			}
			got, ok := hits(t, "by and by", o, now)
			if ok != (now <= 100000000 && within < o.MaxR) {
				t.Fatalf("at %d with %d of %d within %d: %v, %+v", now, within, o.MaxR, maxT, ok, restarts)
			}
			o = got
			if ok {
				restarts = append(restarts, now)
				good++
			} else {
				refused++
			}
			if back, ok := impl.Hit(o, now-1-r.Intn(3)); ok && len(o.Times) > 0 && back.Times[len(back.Times)-1] < o.Times[len(o.Times)-1] {
				t.Fatalf("ahead of the last: %+v, %+v", o, back)
			}
		}
		for i, from := range restarts {
			if many := len(restarts[i:]) - len(slices.DeleteFunc(slices.Clone(restarts[i:]), func(at int) bool { return at < from+maxT })); many > o.MaxR {
				t.Fatalf("%d restarts within %d, not %d: %v", many, maxT, o.MaxR, restarts)
			}
		}
	}
	if good < 1000 || refused < 1000 {
		t.Error("too few to tell anything:", good, refused)
	}
}

func TestWhom(t *testing.T) {
	for _, x := range []struct {
		way  int
		n    int
		i    int
		want []int
	}{
		{1, 1, 0, []int{0}}, {2, 1, 0, []int{0}}, {3, 1, 0, []int{0}}, {1, 3, 0, []int{0}}, {1, 3, 1, []int{1}}, {1, 3, 2, []int{2}}, {2, 3, 0, []int{0, 1, 2}}, {2, 3, 1, []int{0, 1, 2}}, {2, 3, 2, []int{0, 1, 2}}, {3, 3, 0, []int{0, 1, 2}}, {3, 3, 1, []int{1, 2}}, {3, 3, 2, []int{2}},
		{1, 100, 99, []int{99}}, {3, 100, 99, []int{99}}, {3, 100, 98, []int{98, 99}}, {1, 101, 0, nil}, {2, 101, 100, nil}, {3, 101, 100, nil}, {1, 0, 0, nil}, {2, 0, 0, nil}, {2, 0, -1, nil}, {3, -1, -1, nil}, {2, -1, 0, nil}, {0, 3, 1, nil}, {4, 3, 1, nil}, {-1, 3, 1, nil}, {1, 3, 3, nil}, {2, 3, 3, nil}, {3, 3, 3, nil}, {1, 3, -1, nil}, {2, 3, -1, nil}, {3, 3, -1, nil},
	} {
		if got := goWith(t, x.way, x.n, x.i); !slices.Equal(got, x.want) {
			t.Errorf("Whom(%d, %d, %d): %v, not %v", x.way, x.n, x.i, got, x.want)
		}
	}
	for way := 1; way <= 3; way++ {
		if all := goWith(t, way, 100, 0); len(all) != []int{0, 1, 100, 100}[way] || all[0] != 0 {
			t.Error(way, all)
		}
		for n := -2; n <= 104; n++ {
			for i := -2; i <= n+2; i++ {
				got := goWith(t, way, n, i)
				// Who falls goes with itself, and nobody else but those that the way tells.
				if right := n >= 1 && n <= 100 && i >= 0 && i < n; slices.Contains(got, i) != right || !right && len(got) > 0 {
					t.Error(way, n, i, got)
				}
			}
		}
	}
	edges := []int{math.MinInt, math.MinInt + 1, -1 << 32, -101, -100, -1, 0, 1, 2, 3, 4, 5, 99, 100, 101, 1<<32 + 1, 1<<32 + 3, math.MaxInt - 1, math.MaxInt}
	for _, way := range edges {
		for _, n := range edges {
			for _, i := range edges {
				if got := goWith(t, way, n, i); len(got) > 0 && (way < 1 || way > 3 || n < 1 || n > 100 || i < 0 || i >= n) {
					t.Error(way, n, i, got)
				}
			}
		}
	}
}

// TestWhomIsNew: what is written into an answer, up to its room, is in no later one.
func TestWhomIsNew(t *testing.T) {
	for way := 1; way <= 3; way++ {
		first := impl.Whom(way, 9, 4)
		kept := slices.Clone(first)
		second := impl.Whom(way, 9, 4)
		first = first[:cap(first)]
		for i := range first {
			first[i] = 77
		}
		if third := impl.Whom(way, 9, 4); !slices.Equal(second, kept) || !slices.Equal(third, kept) {
			t.Error(way, second, third)
		}
	}
}

// mixedOver: right more often than not.
func mixedOver(r *rand.Rand, terms []impl.Term, at int, many int) impl.Over {
	o := impl.Over{Way: 1 + r.Intn(3), MaxR: r.Intn(21), MaxT: 1 + r.Intn(30), Down: r.Intn(4) == 0}
	for i := range 1 + r.Intn(8) {
		kid := impl.Kid{Name: fmt.Sprintf("k%d_%d", at, i), Mod: []string{"a", "m", twentySmall}[r.Intn(3)], Init: terms[r.Intn(len(terms))], Sub: -1}
		if r.Intn(4) == 0 && many > 0 {
			kid = subKid(kid.Name, r.Intn(many+1))
		}
		o.Kids, o.Pids = append(o.Kids, kid), append(o.Pids, r.Intn(5)*r.Intn(1000000))
	}
	last := r.Intn(50)
	for range r.Intn(o.MaxR + 1) {
		o.Times = append(o.Times, last)
		last += r.Intn(4)
	}
	kid := &o.Kids[r.Intn(len(o.Kids))]
	switch r.Intn(60) {
	case 0:
		o.Way = []int{-1, 0, 4}[r.Intn(3)]
	case 1:
		o.MaxR = []int{-1, 0, 5, 20, 21}[r.Intn(5)]
	case 2:
		o.MaxT = []int{-1, 0, 1, 1000, 1001}[r.Intn(5)]
	case 3:
		o.Pids = append(o.Pids, 0)
	case 4:
		o.Pids[r.Intn(len(o.Pids))] = -r.Intn(3)
	case 5:
		o.Times = append(o.Times, r.Intn(50))
	case 6:
		kid.Name = []string{"", "A", twentySmall + "x", "k0_0"}[r.Intn(4)]
	case 7:
		kid.Mod = []string{"", "A", twentySmall + "x", "b"}[r.Intn(4)]
	case 8:
		kid.Init = wrongTerms()[r.Intn(20)]
	case 9:
		kid.Sub = r.Intn(10) - 3
	case 10:
		o.Kids = append(o.Kids, slices.Clone(o.Kids)...)
		o.Pids = append(o.Pids, slices.Clone(o.Pids)...)
	}
	return o
}

// mixedOvers: those of a tree, more often than not: the Subs of each are told ahead.
func mixedOvers(r *rand.Rand, terms []impl.Term) []impl.Over {
	many := r.Intn(10)
	var l []impl.Over
	for at := range many {
		l = append(l, mixedOver(r, terms, at, 0))
	}
	for at := 1; at < many; at++ {
		o := &l[r.Intn(at)]
		kid := subKid(fmt.Sprint("s", at), at)
		i := r.Intn(len(o.Kids) + 1)
		if len(o.Kids) < 8 && len(o.Pids) == len(o.Kids) {
			o.Kids, o.Pids = slices.Insert(o.Kids, i, kid), slices.Insert(o.Pids, i, 0)
		} else {
			o.Kids[r.Intn(len(o.Kids))] = kid
		}
	}
	if many > 0 {
		o := &l[r.Intn(many)]
		kid, other := &o.Kids[r.Intn(len(o.Kids))], l[r.Intn(many)].Kids[0]
		switch r.Intn(12) {
		case 0:
			kid.Name = other.Name
		case 1:
			*kid = subKid(kid.Name, r.Intn(many+1))
		case 2:
			l[0], *o = *o, l[0]
		case 3:
			l = l[:r.Intn(many+1)]
		}
	}
	return l
}

func TestOversByAnotherWitness(t *testing.T) {
	r := rand.New(rand.NewSource(15))
	terms := randomTerms(15, 60, 4)
	var over, overs, hit [2]int
	told := func(which *[2]int, ok bool) {
		if ok {
			which[1]++
		} else {
			which[0]++
		}
	}
	for range 6000 {
		o := mixedOver(r, terms, 0, 9)
		ok := plainOverOk(o)
		overIs(t, "mixed", o, ok)
		told(&over, ok)
		now := r.Intn(60)
		for range 6 {
			got, ok := hits(t, "mixed", o, now)
			told(&hit, ok)
			o = got
			now += r.Intn(12) - 1
		}
		l := mixedOvers(r, terms)
		ok = plainOversOk(l)
		oversAre(t, "mixed", l, ok)
		told(&overs, ok)
	}
	for what, many := range map[string][2]int{"OverOk": over, "OversOk": overs, "Hit": hit} {
		if many[0] < 500 || many[1] < 500 {
			t.Error("too few to tell anything of", what, many)
		}
	}
}

// TestOversLeaveArgumentsAlone: and what stands behind a list's length is neither read nor written.
func TestOversLeaveArgumentsAlone(t *testing.T) {
	build := func() ([]impl.Term, []impl.Kid, []int, []int, []impl.Over) {
		parts := []impl.Term{atomTerm("a"), intTerm(1), {K: 77}, {}}
		kids := []impl.Kid{{Name: "a", Mod: "k", Init: impl.Term{K: impl.TTuple, L: parts[:2]}, Sub: -1}, subKid("s", 1), {Name: "A", Sub: 9}, {}}
		pids, times := []int{3, 0, -5, -6}, []int{5, 6, 1, 2, 3, 4}
		l := []impl.Over{{Way: 2, MaxR: 3, MaxT: 10, Kids: kids[:2], Pids: pids[:2], Times: times[:2]}, overOf(1, workKid("b")), {Way: 9}, {}}
		return parts, kids, pids, times, l
	}
	parts, kids, pids, times, l := build()
	wantParts, wantKids, wantPids, wantTimes, wantL := build()
	oversAre(t, "with room behind", l[:2], true)
	oversAre(t, "with what was behind", l, false)
	o := l[0]
	for many := range 3 {
		o.Times = times[:many]
		overIs(t, "with room behind", o, true)
		for _, now := range []int{4, 6, 14, 15, 16, 100000000} {
			hits(t, "with room behind", o, now)
		}
	}
	for many := range 5 {
		o.Kids, o.Pids = kids[:many], pids[:many]
		overIs(t, "with room behind", o, many == 1 || many == 2)
		hits(t, "with room behind", o, 7)
	}
	o.Kids, o.Pids, o.Times = kids[:2], pids[:2], times
	overIs(t, "with what was behind", o, false)
	hits(t, "with what was behind", o, 7)
	if !slices.EqualFunc(parts, wantParts, alikeTerms) || !slices.EqualFunc(kids, wantKids, alikeKids) || !slices.Equal(pids, wantPids) || !slices.Equal(times, wantTimes) || !slices.EqualFunc(l, wantL, alikeOvers) {
		t.Error("a call wrote into its argument, or behind it")
	}
}

// TestOversShareNoMemory: one list everywhere in the arguments is apart at each place of an answer.
func TestOversShareNoMemory(t *testing.T) {
	x := listTerm(intTerm(1), tupleTerm(atomTerm("a"), listTerm()))
	both := tupleTerm(x, x)
	for what, change := range map[string]func(o *impl.Over){"right": func(o *impl.Over) {}, "refused": func(o *impl.Over) { o.Way = 4 }, "of odd kinds": func(o *impl.Over) { o.Kids[1].Init.K, o.Kids[0].Init.S = 77, "odd" }} {
		kids := []impl.Kid{{Name: "a", Mod: "k", Init: both, Sub: -1}, {Name: "b", Mod: "k", Init: both, Sub: -1}, {Name: "c", Mod: "k", Init: x, Sub: -1}}
		nums := []int{3, 4, 5, 6, 7}
		o := impl.Over{Way: 1, MaxR: 4, MaxT: 10, Kids: kids, Pids: nums[:3], Times: nums[:3]}
		change(&o)
		for now := 3; now < 20; now++ {
			got, ok := hits(t, what, o, now)
			if ok != (what == "right" && now >= 5) {
				t.Error(what, now, ok)
			}
			// What is answered may be written into, up to its room, and nothing else changes.
			kept := plainCopyOver(o)
			spoilTerms(got.Kids[0].Init.L)
			spoilNums(got.Pids)
			if !alikeKids(got.Kids[1], o.Kids[1]) || !alikeKids(got.Kids[2], o.Kids[2]) || slices.Contains(got.Times, 77) || !alikeOvers(o, kept) {
				t.Error(what, "what was written into an answer is elsewhere, too")
			}
			spoilNums(got.Times)
			if !alikeOvers(o, kept) || !slices.Equal(nums, []int{3, 4, 5, 6, 7}) {
				t.Error(what, "what was written into the Times is elsewhere, too")
			}
		}
	}
	// Nor is an empty list with room behind it handed on.
	room := make([]int, 8)
	empty := impl.Over{Kids: make([]impl.Kid, 0, 4), Pids: room[:0], Times: room[4:4]}
	empty.Kids = append(empty.Kids, impl.Kid{Init: impl.Term{L: make([]impl.Term, 0, 4)}})
	hits(t, "empty lists", empty, 5)
	empty.Kids = empty.Kids[:0]
	hits(t, "empty lists", empty, 5)
}

func spoilNums(l []int) {
	l = l[:cap(l)]
	for i := range l {
		l[i] = 77
	}
}

// TestOversHoldTheirTexts: texts over bytes that change behind the call.
func TestOversHoldTheirTexts(t *testing.T) {
	text := []byte("namemodinitsub")
	name, mod, init, sub := unsafe.String(&text[0], 4), unsafe.String(&text[4], 3), unsafe.String(&text[7], 4), unsafe.String(&text[11], 3)
	o := overOf(impl.WayAll, impl.Kid{Name: name, Mod: mod, Init: tupleTerm(atomTerm(init)), Sub: -1}, subKid(sub, 1))
	if !impl.OverOk(o) || !impl.OversOk([]impl.Over{o, overOf(1, workKid("a"))}) {
		t.Fatal("not right")
	}
	hit, ok := impl.Hit(o, 5)
	not, is := impl.Hit(o, -1)
	o.Kids[1].Init.S = sub
	odd, also := impl.Hit(o, 5)
	if string(text) != "namemodinitsub" {
		t.Error("a text was written into")
	}
	overwrite(text)
	want := overOf(impl.WayAll, impl.Kid{Name: "name", Mod: "mod", Init: tupleTerm(atomTerm("init")), Sub: -1}, subKid("sub", 1))
	if is || !alikeOvers(not, want) {
		t.Error("refused:", is, not)
	}
	want.Times = []int{5}
	if !ok || !alikeOvers(hit, want) {
		t.Error("restarted:", ok, hit)
	}
	want.Times, want.Kids[1].Init.S = nil, "sub"
	if also || !alikeOvers(odd, want) {
		t.Error("not right:", also, odd)
	}
}

// sameOvers: by SameTerm, which comes to an end whatever it is given.
func sameOvers(a impl.Over, b impl.Over) bool {
	kids := func(x impl.Kid, y impl.Kid) bool {
		return x.Name == y.Name && x.Mod == y.Mod && x.Sub == y.Sub && impl.SameTerm(x.Init, y.Init)
	}
	return a.Way == b.Way && a.MaxR == b.MaxR && a.MaxT == b.MaxT && a.Down == b.Down && slices.EqualFunc(a.Kids, b.Kids, kids) && slices.Equal(a.Pids, b.Pids) && slices.Equal(a.Times, b.Times)
}

// TestOversOfVeryMuch: very great and very deep arguments, and such as have no end, come to an end.
func TestOversOfVeryMuch(t *testing.T) {
	long := strings.Repeat("a", 10000000)
	all := map[string]impl.Over{
		"a long Name": overOf(1, workKid(long)), "a long Mod": overOf(1, impl.Kid{Name: "a", Mod: long, Init: intTerm(1), Sub: -1}), "a long Mod of a Sub": overOf(1, impl.Kid{Name: "a", Mod: long, Sub: 1}), "many Kids": overOf(1, numberedKids("a", 100000)...), "one Kid very often": overOf(1, slices.Repeat([]impl.Kid{workKid("a")}, 1000000)...), "one long Name very often": overOf(1, slices.Repeat([]impl.Kid{workKid(long)}, 10000)...),
		"many Pids": {Way: 1, MaxR: 2, MaxT: 10, Kids: numberedKids("a", 1), Pids: make([]int, 10000000)}, "many Times": overAt(20, 10, make([]int, 10000000)...),
	}
	for what, x := range greatTerms() {
		all["Init "+what] = overOf(2, impl.Kid{Name: "a", Mod: "k", Init: x, Sub: -1}, workKid("b"), impl.Kid{Name: "c", Mod: "k", Init: x, Sub: -1})
		all["Init of a Sub "+what] = overOf(3, impl.Kid{Name: "a", Init: impl.Term{L: x.L, S: x.S}, Sub: 1}, workKid("b"))
	}
	for what, o := range all {
		got, ok := impl.Hit(o, 5)
		if impl.OverOk(o) || ok || !sameOvers(got, o) || impl.OversOk([]impl.Over{o}) || impl.OversOk([]impl.Over{overOf(1, subKid("x", 1)), o}) || impl.OversOk([]impl.Over{o, o}) {
			t.Error(what, ok)
		}
		if &got.Kids[0] == &o.Kids[0] || &got.Pids[0] == &o.Pids[0] || len(o.Times) > 0 && &got.Times[0] == &o.Times[0] || len(o.Kids[0].Init.L) > 0 && &got.Kids[0].Init.L[0] == &o.Kids[0].Init.L[0] || len(o.Kids[0].Init.L) > 0 && len(o.Kids) == 3 && &got.Kids[2].Init.L[0] == &o.Kids[2].Init.L[0] || unsafe.StringData(got.Kids[0].Name) == unsafe.StringData(o.Kids[0].Name) {
			t.Error(what, "shares memory with its argument")
		}
	}
	right := overOf(1, workKid("a"), subKid("s", 1))
	for what, l := range map[string][]impl.Over{"very many": make([]impl.Over, 1000000), "one very often": slices.Repeat([]impl.Over{right}, 1000000)} {
		if impl.OversOk(l) {
			t.Error(what, "is right")
		}
	}
}

// TestOversOfVeryDeepTerms: deeper than the program's own stack could go.
func TestOversOfVeryDeepTerms(t *testing.T) {
	const deep = 4000000
	x := nestedTerm(impl.TTuple, deep, intTerm(1))
	o := overOf(1, impl.Kid{Name: "a", Mod: "k", Init: x, Sub: -1})
	got, ok := impl.Hit(o, 5)
	if ok || impl.OverOk(o) || impl.OversOk([]impl.Over{o}) {
		t.Fatal("right")
	}
	depth, own := 0, got.Kids[0].Init
	for part := x; len(part.L) > 0 && len(own.L) > 0 && &own.L[0] != &part.L[0]; own, part = own.L[0], part.L[0] {
		depth++
	}
	if depth != deep || own.N != 1 {
		t.Error("shares memory, or is another one,", depth, "deep")
	}
}

// TestOversOfMostWork: the greatest arguments that are right.
func TestOversOfMostWork(t *testing.T) {
	var l []impl.Over
	for at := range 8 {
		o := overOf(impl.WayRest)
		for i := range 8 {
			o.Kids = append(o.Kids, impl.Kid{Name: fmt.Sprintf("%s%d%d", twentySmall[:18], at, i), Mod: twentySmall, Init: countedTerm(300), Sub: -1})
		}
		if at < 7 {
			o.Kids[7] = subKid(o.Kids[7].Name, at+1)
		}
		o.MaxR, o.MaxT, o.Pids = 20, 1000, slices.Repeat([]int{math.MaxInt}, 8)
		for i := range 19 {
			o.Times = append(o.Times, 99999001+50*i)
		}
		l = append(l, o)
	}
	oversAre(t, "the greatest", l, true)
	for _, o := range l {
		got, ok := hits(t, "the greatest", o, 100000000)
		if !ok || len(got.Times) != 20 {
			t.Error(ok, got.Times)
		}
		if _, ok := hits(t, "the greatest", got, 100000000); ok {
			t.Error("21 within 1000")
		}
	}
}
