package tests

import (
	"fmt"
	"math"
	"math/rand"
	"regexp"
	"slices"
	"strconv"
	"strings"
	"testing"
	"unsafe"

	"loop.example/g00236/impl"
)

// numCode: code that is told from others by its number, with a pattern of its own.
func numCode(n int) impl.Code {
	return impl.Code{Fns: []impl.Fn{fnOf("f", 1, 2, "load 0; match 0 4; int "+strconv.Itoa(n)+"; jump 5; fail; ret")}, Pats: []impl.Pat{tupleP(intP(n), slotP(1))}}
}

func entryOf(name string, no int, cur impl.Code) impl.Entry {
	return impl.Entry{Name: name, No: no, Cur: cur}
}

func entryWithOld(name string, no int, cur impl.Code, old impl.Code) impl.Entry {
	return impl.Entry{Name: name, No: no, Cur: cur, HasOld: true, Old: old}
}

// tableOf: so many entries, those at an odd place with an Old.
func tableOf(many int) []impl.Entry {
	var l []impl.Entry
	for i := range many {
		e := entryOf(fmt.Sprintf("m%02d", i), i+1, numCode(i))
		if i%2 == 1 {
			e.HasOld, e.Old = true, numCode(100+i)
		}
		l = append(l, e)
	}
	return l
}

func sameEntry(a impl.Entry, b impl.Entry) bool {
	return a.Name == b.Name && a.No == b.No && a.HasOld == b.HasOld && plainSameCode(a.Cur, b.Cur) && plainSameCode(a.Old, b.Old)
}

func sameTable(a []impl.Entry, b []impl.Entry) bool { return slices.EqualFunc(a, b, sameEntry) }

func plainCopyTable(l []impl.Entry) []impl.Entry {
	own := slices.Clone(l)
	for i := range own {
		own[i].Cur, own[i].Old = plainCopyCode(own[i].Cur), plainCopyCode(own[i].Old)
	}
	return own
}

func tableText(l []impl.Entry) string {
	var texts []string
	for _, e := range l {
		texts = append(texts, fmt.Sprintf("%q %d %+v %v %+v", e.Name, e.No, e.Cur, e.HasOld, e.Old))
	}
	return strings.Join(texts, "; ")
}

func tableListSpans(l []impl.Entry) []span {
	all := listSpan(l)
	for _, e := range l {
		all = append(append(all, codeListSpans(e.Cur)...), codeListSpans(e.Old)...)
	}
	return all
}

func tableSpans(l []impl.Entry) []span {
	all := listSpan(l)
	for _, e := range l {
		all = append(append(append(all, textSpan(e.Name)...), codeSpans(e.Cur)...), codeSpans(e.Old)...)
	}
	return all
}

var plainAtom = regexp.MustCompile(`\A[a-z][a-z0-9_]{0,19}\z`)

// plainTableOk: the chapter's words once more. Names are in order where sorting leaves them, and none is there twice.
func plainTableOk(l []impl.Entry) bool {
	var names []string
	for _, e := range l {
		names = append(names, e.Name)
		right := plainAtom.MatchString(e.Name) && e.No >= 1 && e.No <= 10000 && plainCodeOk(e.Cur) && plainCodeOk(e.Old)
		if !right || e.HasOld && e.No == 1 || !e.HasOld && len(e.Old.Fns) > 0 {
			return false
		}
	}
	sorted := slices.Compact(slices.Sorted(slices.Values(names)))
	return len(l) < 11 && slices.Equal(sorted, names)
}

func plainPlace(l []impl.Entry, name string) int {
	return slices.IndexFunc(l, func(e impl.Entry) bool { return e.Name == name })
}

func plainLoad(l []impl.Entry, name string, c impl.Code) ([]impl.Entry, int) {
	own, at := plainCopyTable(l), plainPlace(l, name)
	switch {
	case !plainTableOk(l) || !plainAtom.MatchString(name) || !plainCodeOk(c):
		return own, impl.TabForm
	case at < 0 && len(l) == 10:
		return own, impl.TabFull
	case at < 0:
		own = append(own, impl.Entry{Name: name, No: 1, Cur: c})
		slices.SortFunc(own, func(a impl.Entry, b impl.Entry) int { return strings.Compare(a.Name, b.Name) })
		return own, impl.TabGood
	case own[at].No == 10000:
		return own, impl.TabFull
	case own[at].HasOld:
		return own, impl.TabOld
	}
	own[at] = impl.Entry{Name: name, No: own[at].No + 1, Cur: c, HasOld: true, Old: own[at].Cur}
	return own, impl.TabGood
}

func plainPurge(l []impl.Entry, name string) ([]impl.Entry, int) {
	own, at := plainCopyTable(l), plainPlace(l, name)
	switch {
	case !plainTableOk(l) || !plainAtom.MatchString(name):
		return own, impl.TabForm
	case at < 0 || !own[at].HasOld:
		return own, impl.TabNone
	}
	own[at] = impl.Entry{Name: name, No: own[at].No, Cur: own[at].Cur}
	return own, impl.TabGood
}

func plainCodeOf(l []impl.Entry, name string, no int) (impl.Code, bool) {
	at := plainPlace(l, name)
	if at >= 0 && l[at].No == no {
		return l[at].Cur, true
	}
	if at >= 0 && l[at].HasOld && l[at].No > math.MinInt && l[at].No-1 == no {
		return l[at].Old, true
	}
	return impl.Code{}, false
}

// tableIs: what TableOk answers is this, and as the witness has it; it leaves its argument as it is.
func tableIs(t *testing.T, what string, l []impl.Entry, want bool) {
	t.Helper()
	kept := plainCopyTable(l)
	if got, plain := impl.TableOk(l), plainTableOk(l); got != want || plain != want {
		t.Errorf("%s: %v, the witness %v, not %v: %s", what, got, plain, want, tableText(l))
	}
	if !sameTable(l, kept) {
		t.Errorf("%s: TableOk wrote into its argument", what)
	}
}

// tableApart: a table shares no memory with any argument, and no two of its lists share any.
func tableApart(t *testing.T, what string, l []impl.Entry, args ...[]span) {
	t.Helper()
	if meeting(tableSpans(l), append([]span{}, slices.Concat(args...)...)) {
		t.Fatalf("%s: the answer shares memory with an argument: %s", what, tableText(l))
	}
	if meeting(tableListSpans(l), nil) {
		t.Fatalf("%s: two lists of the answer share memory: %s", what, tableText(l))
	}
}

// loads: what LoadCode answers is as the witness has it, and in memory of its own; it leaves its arguments as they are. Of a right table it is right, the code is the newest, and what was that is still there.
func loads(t *testing.T, what string, l []impl.Entry, name string, c impl.Code) ([]impl.Entry, int) {
	t.Helper()
	kept, keptCode := plainCopyTable(l), plainCopyCode(c)
	want, wanted := plainLoad(l, name, c)
	got, code := impl.LoadCode(l, name, c)
	if code != wanted || !sameTable(got, want) {
		t.Fatalf("%s: LoadCode of %q: %d, %s, not %d, %s", what, name, code, tableText(got), wanted, tableText(want))
	}
	if !sameTable(l, kept) || !plainSameCode(c, keptCode) {
		t.Fatalf("%s: LoadCode of %q wrote into an argument", what, name)
	}
	tableApart(t, what, got, tableSpans(l), textSpan(name), codeSpans(c))
	if code != impl.TabGood {
		if !sameTable(got, l) {
			t.Fatalf("%s: not the table as it was beside %d: %s", what, code, tableText(got))
		}
		return got, code
	}
	before, no := impl.NewestOf(l, name), impl.NewestOf(got, name)
	newest, ok := impl.CodeOf(got, name, no)
	if !impl.TableOk(got) || no != before+1 || !ok || !impl.SameCode(newest, c) {
		t.Fatalf("%s: what was loaded as %q is not the newest: %d, %v, %+v", what, name, no, ok, newest)
	}
	was, there := impl.CodeOf(l, name, before)
	is, still := impl.CodeOf(got, name, before)
	if there != still || !impl.SameCode(was, is) {
		t.Fatalf("%s: what was the newest %q is not there any more: %v, %+v", what, name, still, is)
	}
	return got, code
}

// purges: as loads, of PurgeCode.
func purges(t *testing.T, what string, l []impl.Entry, name string) ([]impl.Entry, int) {
	t.Helper()
	kept := plainCopyTable(l)
	want, wanted := plainPurge(l, name)
	got, code := impl.PurgeCode(l, name)
	if code != wanted || !sameTable(got, want) {
		t.Fatalf("%s: PurgeCode of %q: %d, %s, not %d, %s", what, name, code, tableText(got), wanted, tableText(want))
	}
	if !sameTable(l, kept) {
		t.Fatalf("%s: PurgeCode of %q wrote into its argument", what, name)
	}
	tableApart(t, what, got, tableSpans(l), textSpan(name))
	if code != impl.TabGood {
		if !sameTable(got, l) {
			t.Fatalf("%s: not the table as it was beside %d: %s", what, code, tableText(got))
		}
		return got, code
	}
	no := impl.NewestOf(got, name)
	if _, there := impl.CodeOf(got, name, no-1); there || no != impl.NewestOf(l, name) || !impl.TableOk(got) {
		t.Fatalf("%s: the Old of %q is still there, or its number is another: %d", what, name, no)
	}
	if again, code := impl.PurgeCode(got, name); code != impl.TabNone || !sameTable(again, got) {
		t.Fatalf("%s: purged again: %d", what, code)
	}
	return got, code
}

// codeFrom: what CodeOf answers is as the witness has it, and in memory of its own; it leaves its argument as it is.
func codeFrom(t *testing.T, what string, l []impl.Entry, name string, no int) (impl.Code, bool) {
	t.Helper()
	kept := plainCopyTable(l)
	want, wanted := plainCodeOf(l, name, no)
	got, ok := impl.CodeOf(l, name, no)
	if ok != wanted || !plainSameCode(got, want) {
		t.Fatalf("%s: CodeOf %q, %d: %v, %+v, not %v, %+v", what, name, no, ok, got, wanted, want)
	}
	if !ok && (len(got.Fns) > 0 || len(got.Pats) > 0) {
		t.Fatalf("%s: CodeOf %q, %d: not the zero one beside false: %+v", what, name, no, got)
	}
	if !sameTable(l, kept) {
		t.Fatalf("%s: CodeOf wrote into its argument", what)
	}
	if meeting(codeSpans(got), append([]span{}, tableSpans(l)...)) || meeting(codeListSpans(got), nil) {
		t.Fatalf("%s: CodeOf %q, %d shares memory: %+v", what, name, no, got)
	}
	return got, ok
}

// newestIs: what NewestOf answers is this; it leaves its argument as it is.
func newestIs(t *testing.T, what string, l []impl.Entry, name string, want int) {
	t.Helper()
	kept := plainCopyTable(l)
	if got := impl.NewestOf(l, name); got != want {
		t.Errorf("%s: NewestOf %q: %d, not %d", what, name, got, want)
	}
	if !sameTable(l, kept) {
		t.Errorf("%s: NewestOf wrote into its argument", what)
	}
}

func TestTableCodes(t *testing.T) {
	if impl.TabGood != 0 || impl.TabForm != 1 || impl.TabOld != 2 || impl.TabFull != 3 || impl.TabNone != 4 {
		t.Error(impl.TabGood, impl.TabForm, impl.TabOld, impl.TabFull, impl.TabNone)
	}
}

func TestTableOk(t *testing.T) {
	c, d := numCode(1), numCode(2)
	named := func(names ...string) []impl.Entry {
		var l []impl.Entry
		for _, name := range names {
			l = append(l, entryOf(name, 1, c))
		}
		return l
	}
	for _, x := range []struct {
		what string
		l    []impl.Entry
		want bool
	}{
		{"nil", nil, true}, {"none", []impl.Entry{}, true}, {"one", tableOf(1), true}, {"two", tableOf(2), true}, {"10", tableOf(10), true}, {"11", tableOf(11), false}, {"12", tableOf(12), false},
		{"in order", named("a", "b"), true}, {"in the wrong order", named("b", "a"), false}, {"one Name twice", named("a", "a"), false}, {"one Name twice at the end", named("a", "b", "b"), false}, {"the last in the wrong order", named("a", "c", "b"), false}, {"the first behind the last", named("b", "c", "a"), false}, {"one Name, another between", named("a", "b", "a"), false},
		{"a beginning ahead", named("a", "a0", "aa"), true}, {"a beginning behind", named("aa", "a"), false}, {"digits, _ and letters by their bytes", named("a0", "a9", "a_", "aa"), true}, {"_ ahead of a digit", named("a_", "a0"), false}, {"numbers as texts", named("m10", "m9"), true}, {"not as numbers", named("m9", "m10"), false},
		{"the zero one", []impl.Entry{{}}, false}, {"the zero one behind", append(tableOf(2), impl.Entry{}), false},
		{"words of a case", named("case", "end", "of"), true}, {"a Name of 20", named(twentySmall), true}, {"a Name of 21", named(twentySmall + "u"), false},
		{"Cur of nothing", []impl.Entry{{Name: "a", No: 1}}, true}, {"Cur and Old of nothing", []impl.Entry{{Name: "a", No: 2, HasOld: true}}, true}, {"Cur and Old the same", []impl.Entry{entryWithOld("a", 2, c, c)}, true},
		{"an Old", []impl.Entry{entryWithOld("a", 2, c, d)}, true}, {"an Old without HasOld", []impl.Entry{{Name: "a", No: 2, Cur: c, Old: d}}, false}, {"an Old without HasOld, the same", []impl.Entry{{Name: "a", No: 2, Cur: c, Old: c}}, false}, {"an Old of no Fns without HasOld", []impl.Entry{{Name: "a", No: 2, Cur: c, Old: impl.Code{Fns: []impl.Fn{}, Pats: []impl.Pat{}}}}, true},
		{"Pats of an Old without HasOld", []impl.Entry{{Name: "a", No: 1, Cur: c, Old: impl.Code{Pats: []impl.Pat{intP(1), {}}}}}, true}, {"2000 Pats of an Old without HasOld", []impl.Entry{{Name: "a", No: 1, Old: impl.Code{Pats: timesP(2000, intP(1))}}}, true}, {"2001 Pats of an Old without HasOld", []impl.Entry{{Name: "a", No: 1, Old: impl.Code{Pats: timesP(2001, intP(1))}}}, false},
	} {
		tableIs(t, x.what, x.l, x.want)
	}
	for _, name := range []string{"", "A", "_", "_a", "0", "0a", "a b", "a-b", "aB", "a\n", "\x00", "ä", "a.", " a", "a "} {
		tableIs(t, "a Name that is no atom", named(name), false)
		tableIs(t, "a Name that is no atom, among others", []impl.Entry{entryOf("a", 1, c), entryOf(name, 1, c), entryOf("b", 1, c)}, false)
	}
}

func TestTableOkByNumbers(t *testing.T) {
	c, d := numCode(1), numCode(2)
	for _, no := range []int{math.MinInt, -10000, -1, 0, 1, 2, 3, 9999, 10000, 10001, 65536 + 1, 1<<32 + 2, math.MaxInt} {
		within := no >= 1 && no <= 10000
		for at := range 3 {
			l := []impl.Entry{entryOf("a", 1, c), entryWithOld("b", 7, c, d), entryOf("c", 3, d)}
			l[at] = entryOf(l[at].Name, no, c)
			tableIs(t, fmt.Sprint("No ", no), l, within)
			l[at] = entryWithOld(l[at].Name, no, c, d)
			tableIs(t, fmt.Sprint("No ", no, " with an Old"), l, within && no > 1)
			l[at].Old = impl.Code{}
			tableIs(t, fmt.Sprint("No ", no, " with an Old of nothing"), l, within && no > 1)
		}
	}
}

func TestTableOkByCode(t *testing.T) {
	for i, wrong := range wrongCodes() {
		for at := range 3 {
			what := fmt.Sprint("wrong code ", i, " at ", at)
			l := []impl.Entry{entryWithOld("a", 2, numCode(1), numCode(2)), entryWithOld("b", 3, vmCode(), numCode(2)), entryWithOld("c", 4, impl.Code{}, vmCode())}
			tableIs(t, what, l, true)
			right := l[at]
			l[at].Cur = wrong
			tableIs(t, what+", Cur", l, false)
			l[at] = right
			l[at].Old = wrong
			tableIs(t, what+", Old", l, false)
			l[at].HasOld = false
			tableIs(t, what+", Old without HasOld", l, false)
		}
	}
	for what, c := range putCodes() {
		tableIs(t, what, []impl.Entry{entryWithOld("a", 2, c, c)}, true)
		tableIs(t, what+", without HasOld", []impl.Entry{{Name: "a", No: 2, Cur: c, Old: c}}, len(c.Fns) == 0)
	}
}

// TestLoadCodeOfANewName: it has the number 1, and stands in its order; the others are as they were.
func TestLoadCodeOfANewName(t *testing.T) {
	for many := range 11 {
		l := tableOf(many)
		for _, name := range []string{"a", "m", "m00a", "m01z", "m04_", "m040", "m09z", "m10", "z", "case", twentySmall} {
			c := numCode(77)
			got, code := loads(t, fmt.Sprint(many, " there"), l, name, c)
			if many == 10 {
				if code != impl.TabFull || len(got) != 10 {
					t.Errorf("%q as the eleventh: %d", name, code)
				}
				continue
			}
			at := plainPlace(got, name)
			if code != impl.TabGood || len(got) != many+1 || at < 0 || !sameEntry(got[at], impl.Entry{Name: name, No: 1, Cur: c}) {
				t.Fatalf("%q beside %d: %d, %s", name, many, code, tableText(got))
			}
			if !sameTable(slices.Delete(got, at, at+1), l) {
				t.Errorf("%q beside %d: the others are not as they were", name, many)
			}
		}
	}
}

// TestLoadCodeOfANameThatIsThere: its Cur is Old then, and its number one more; where there is an Old, all is as it was.
func TestLoadCodeOfANameThatIsThere(t *testing.T) {
	for many := 1; many <= 10; many++ {
		l := tableOf(many)
		for at, e := range l {
			c := numCode(77)
			got, code := loads(t, fmt.Sprint(many, " there"), l, e.Name, c)
			if e.HasOld {
				if code != impl.TabOld || !sameTable(got, l) {
					t.Errorf("%q with an Old: %d, %s", e.Name, code, tableText(got))
				}
				continue
			}
			if code != impl.TabGood || len(got) != many || !sameEntry(got[at], entryWithOld(e.Name, e.No+1, c, e.Cur)) {
				t.Fatalf("%q: %d, %s", e.Name, code, tableText(got))
			}
			got[at] = e
			if !sameTable(got, l) {
				t.Errorf("%q: the others are not as they were", e.Name)
			}
		}
	}
	// Code that is the same as the newest is one more all the same; and what an Old has without HasOld is gone.
	l := []impl.Entry{{Name: "a", No: 5, Cur: numCode(1), Old: impl.Code{Pats: []impl.Pat{{K: 99}}}}}
	got, code := loads(t, "the same code", l, "a", numCode(1))
	if code != impl.TabGood || !sameTable(got, []impl.Entry{entryWithOld("a", 6, numCode(1), numCode(1))}) {
		t.Error("the same code:", code, tableText(got))
	}
}

// TestLoadCodeOfAnyCode: with all its fields, and its patterns that no Ins names.
func TestLoadCodeOfAnyCode(t *testing.T) {
	all := putCodes()
	all["patterns that are none, named by none"] = impl.Code{Fns: []impl.Fn{fnOf("f", 0, 0, "fail")}, Pats: []impl.Pat{{}, {K: 99, N: math.MinInt, S: "No Atom", E: []impl.Pat{{S: strings.Repeat("x", 100)}, {E: []impl.Pat{slotP(7)}}}}}}
	all["2000 patterns"] = impl.Code{Pats: timesP(2000, countedP(30))}
	for what, c := range all {
		l, code := loads(t, what, tableOf(3), "m01a", c)
		if code != impl.TabGood {
			t.Error(what, code)
		}
		for which, d := range all {
			l, code := loads(t, what+", "+which, l, "m01a", d)
			if code != impl.TabGood || !plainSameCode(l[2].Old, c) || !plainSameCode(l[2].Cur, d) {
				t.Error(what, which, code)
			}
			if _, code = purges(t, what+", "+which, l, "m01a"); code != impl.TabGood {
				t.Error(what, which, code)
			}
		}
	}
}

// notTables: tables that are not right, each by one fault.
func notTables() map[string][]impl.Entry {
	c, d := numCode(1), numCode(2)
	l := map[string][]impl.Entry{
		"11": tableOf(11), "the wrong order": {entryOf("b", 1, c), entryOf("a", 1, c)}, "twice": {entryOf("a", 1, c), entryOf("a", 2, d)}, "no atom": {entryOf("A", 1, c)}, "No 0": {entryOf("a", 0, c)}, "No 10001": {entryOf("a", 10001, c)}, "No 1 with an Old": {entryWithOld("a", 1, c, d)}, "an Old without HasOld": {{Name: "a", No: 2, Cur: c, Old: d}}, "the zero one": {{}},
	}
	for i, wrong := range wrongCodes() {
		l[fmt.Sprint("a wrong Cur ", i)] = []impl.Entry{entryOf("a", 1, wrong)}
		l[fmt.Sprint("a wrong Old ", i)] = []impl.Entry{entryWithOld("a", 2, c, wrong)}
	}
	return l
}

// TestTableFaults: TabForm ahead of all others, and the table is as it was.
func TestTableFaults(t *testing.T) {
	c := numCode(9)
	var noAtoms = []string{"", "A", "_a", "0a", "a b", "a\x00", twentySmall + "u", strings.Repeat("a", 1000)}
	full := tableOf(10)
	full[3].No, full[4].No = 10000, 10000
	for what, l := range notTables() {
		tableIs(t, what, l, false)
		for _, name := range append([]string{"a", "b", "z", "m03", l[0].Name}, noAtoms...) {
			for _, d := range []impl.Code{c, {}, wrongCodes()[0]} {
				if _, code := loads(t, what, l, name, d); code != impl.TabForm {
					t.Errorf("%s: %q: %d", what, name, code)
				}
			}
			if _, code := purges(t, what, l, name); code != impl.TabForm {
				t.Errorf("%s: %q purged: %d", what, name, code)
			}
		}
	}
	for _, l := range [][]impl.Entry{nil, tableOf(2), full} {
		for _, name := range noAtoms {
			if _, code := loads(t, "no atom", l, name, c); code != impl.TabForm {
				t.Errorf("%q: %d", name, code)
			}
			if _, code := purges(t, "no atom", l, name); code != impl.TabForm {
				t.Errorf("%q purged: %d", name, code)
			}
		}
		for _, wrong := range wrongCodes() {
			for _, name := range []string{"a", "m00", "m01", "m03", "m04", "z", "A"} {
				if _, code := loads(t, "no code", l, name, wrong); code != impl.TabForm {
					t.Errorf("no code as %q: %d", name, code)
				}
			}
		}
	}
}

// TestLoadCodeWhereFaultsMeet: the one that is named first counts: TabForm, TabFull, TabOld.
func TestLoadCodeWhereFaultsMeet(t *testing.T) {
	c := numCode(9)
	full := tableOf(10)
	full[2].No, full[3].No = 10000, 10000
	few := full[2:4]
	for _, x := range []struct {
		what string
		l    []impl.Entry
		name string
		want int
	}{
		{"10 there, a new one", full, "z", impl.TabFull}, {"10 there, one of them", full, "m00", impl.TabGood}, {"10 there, one with an Old", full, "m01", impl.TabOld},
		{"10 there, the number 10000", full, "m02", impl.TabFull}, {"10 there, the number 10000 with an Old", full, "m03", impl.TabFull}, {"the number 10000", few, "m02", impl.TabFull}, {"the number 10000 with an Old", few, "m03", impl.TabFull}, {"a new one beside these", few, "m04", impl.TabGood},
		{"the number 9999", []impl.Entry{entryOf("a", 9999, c)}, "a", impl.TabGood}, {"the number 9999 with an Old", []impl.Entry{entryWithOld("a", 9999, c, c)}, "a", impl.TabOld}, {"9 there", full[:9], "z", impl.TabGood}, {"the number 1", []impl.Entry{entryOf("a", 1, c)}, "a", impl.TabGood},
	} {
		if got, code := loads(t, x.what, x.l, x.name, c); code != x.want || x.want != impl.TabGood && !sameTable(got, x.l) {
			t.Errorf("%s: %d, not %d", x.what, code, x.want)
		}
		if _, code := loads(t, x.what+", no code", x.l, x.name, wrongCodes()[1]); code != impl.TabForm {
			t.Errorf("%s, no code: %d", x.what, code)
		}
		if _, code := loads(t, x.what+", no table", append(slices.Clone(x.l), impl.Entry{}), x.name, c); code != impl.TabForm {
			t.Errorf("%s, no table: %d", x.what, code)
		}
	}
}

func TestPurgeCode(t *testing.T) {
	for many := range 11 {
		l := tableOf(many)
		for at, e := range l {
			got, code := purges(t, fmt.Sprint(many, " there"), l, e.Name)
			if !e.HasOld {
				if code != impl.TabNone {
					t.Errorf("%q without an Old: %d", e.Name, code)
				}
				continue
			}
			if code != impl.TabGood || !sameEntry(got[at], entryOf(e.Name, e.No, e.Cur)) {
				t.Fatalf("%q: %d, %s", e.Name, code, tableText(got))
			}
			got[at] = e
			if !sameTable(got, l) {
				t.Errorf("%q: the others are not as they were", e.Name)
			}
			if _, code = purges(t, "again", []impl.Entry{entryOf(e.Name, e.No, e.Cur)}, e.Name); code != impl.TabNone {
				t.Errorf("%q purged again: %d", e.Name, code)
			}
		}
		for _, name := range []string{"a", "m", "m000", "m0", "z", "case"} {
			if _, code := purges(t, "not there", l, name); code != impl.TabNone {
				t.Errorf("%q, which is not there: %d", name, code)
			}
		}
	}
	// An Old of nothing is one; what an Old has without HasOld is none, and stays.
	l := []impl.Entry{{Name: "a", No: 2, HasOld: true}, {Name: "b", No: 10000, HasOld: true, Old: numCode(1)}, {Name: "c", No: 3, Old: impl.Code{Pats: []impl.Pat{intP(1)}}}}
	if got, code := purges(t, "an Old of nothing", l, "a"); code != impl.TabGood || got[0].HasOld || !sameTable(got[1:], l[1:]) {
		t.Error("an Old of nothing:", code)
	}
	if got, code := purges(t, "the number 10000", l, "b"); code != impl.TabGood || got[1].No != 10000 {
		t.Error("the number 10000:", code)
	}
	if got, code := purges(t, "Pats without HasOld", l, "c"); code != impl.TabNone || len(got[2].Old.Pats) != 1 {
		t.Error("Pats without HasOld:", code)
	}
}

func TestCodeOf(t *testing.T) {
	l := []impl.Entry{entryOf("a", 1, numCode(1)), entryWithOld("b", 2, numCode(2), numCode(3)), entryOf("c", 7, numCode(4)), entryWithOld("d", 10000, numCode(5), numCode(6)), {Name: "e", No: 2, HasOld: true}, {Name: "f", No: 3, Old: impl.Code{Pats: []impl.Pat{intP(1)}}}}
	tableIs(t, "the table", l, true)
	there := map[string]impl.Code{"a 1": numCode(1), "b 2": numCode(2), "b 1": numCode(3), "c 7": numCode(4), "d 10000": numCode(5), "d 9999": numCode(6), "e 2": {}, "e 1": {}, "f 3": {}}
	found := 0
	for _, name := range []string{"a", "b", "c", "d", "e", "f", "g", "aa", "", "A", "B", "case", twentySmall} {
		for _, no := range []int{math.MinInt, -1, 0, 1, 2, 3, 4, 5, 6, 7, 8, 9998, 9999, 10000, 10001, 1<<32 + 1, 1<<32 + 2, math.MaxInt} {
			want, is := there[fmt.Sprint(name, " ", no)]
			c, ok := codeFrom(t, "of the table", l, name, no)
			if ok != is || !plainSameCode(c, want) {
				t.Errorf("%q, %d: %v, %+v", name, no, ok, c)
			}
			if ok {
				found++
			}
			codeFrom(t, "of none", nil, name, no)
		}
	}
	if found != len(there) {
		t.Error(found)
	}
}

func TestNewestOf(t *testing.T) {
	l := []impl.Entry{entryOf("a", 1, numCode(1)), entryWithOld("b", 2, numCode(2), numCode(3)), entryOf("case", 10000, impl.Code{}), {Name: "d", No: 7}}
	for name, want := range map[string]int{"a": 1, "b": 2, "case": 10000, "d": 7, "c": 0, "": 0, "A": 0, "aa": 0, "e": 0, "ca": 0, "cases": 0, twentySmall: 0, strings.Repeat("a", 1000): 0} {
		newestIs(t, "of the table", l, name, want)
		newestIs(t, "of none", nil, name, 0)
	}
}

// TestCodeOfWrongTables: the first of a name counts, whatever stands around it.
func TestCodeOfWrongTables(t *testing.T) {
	c, d, e := numCode(1), numCode(2), numCode(3)
	wrong := wrongCodes()[1]
	l := []impl.Entry{entryOf("z", 5, c), entryOf("a", 3, d), entryOf("z", 9, e), entryWithOld("a", 5, c, e), {}, entryOf("No Atom", -4, wrong), entryWithOld("low", math.MinInt, c, d), entryWithOld("one", 1, c, wrong), {Name: "spare", No: 4, Cur: c, Old: d}, entryWithOld("high", math.MaxInt, c, d)}
	for len(l) < 30 {
		l = append(l, entryOf(fmt.Sprint("m", len(l)), len(l), numCode(len(l))))
	}
	tableIs(t, "the table", l, false)
	for _, x := range []struct {
		name string
		no   int
		want impl.Code
		is   bool
	}{
		{"z", 5, c, true}, {"z", 9, impl.Code{}, false}, {"a", 3, d, true}, {"a", 4, impl.Code{}, false}, {"a", 5, impl.Code{}, false}, {"", 0, impl.Code{}, true}, {"", -1, impl.Code{}, false}, {"No Atom", -4, wrong, true}, {"No Atom", -5, impl.Code{}, false},
		{"low", math.MinInt, c, true}, {"low", math.MaxInt, impl.Code{}, false}, {"one", 1, c, true}, {"one", 0, wrong, true}, {"spare", 4, c, true}, {"spare", 3, impl.Code{}, false}, {"high", math.MaxInt, c, true}, {"high", math.MaxInt - 1, d, true}, {"high", math.MinInt, impl.Code{}, false}, {"m29", 29, numCode(29), true}, {"none", 0, impl.Code{}, false},
	} {
		if got, ok := codeFrom(t, "of a wrong table", l, x.name, x.no); ok != x.is || !plainSameCode(got, x.want) {
			t.Errorf("%q, %d: %v, %+v", x.name, x.no, ok, got)
		}
	}
	for name, want := range map[string]int{"z": 5, "a": 3, "": 0, "No Atom": -4, "low": math.MinInt, "one": 1, "high": math.MaxInt, "m29": 29, "none": 0} {
		newestIs(t, "of a wrong table", l, name, want)
	}
}

// TestThirdVersion: it comes in only behind a purge, up to the last number there is.
func TestThirdVersion(t *testing.T) {
	l, code := impl.LoadCode([]impl.Entry{entryWithOld("a", 2, numCode(1), numCode(2)), entryOf("z", 1, numCode(3))}, "m", numCode(1))
	if code != impl.TabGood {
		t.Fatal(code)
	}
	around := plainCopyTable([]impl.Entry{l[0], l[2]})
	for no := 2; no <= 10000; no++ {
		if _, code = impl.PurgeCode(l, "m"); code != impl.TabNone {
			t.Fatal(no, "nothing old is purged:", code)
		}
		l, code = impl.LoadCode(l, "m", numCode(no))
		if code != impl.TabGood || impl.NewestOf(l, "m") != no {
			t.Fatal(no, code, impl.NewestOf(l, "m"))
		}
		cur, ok := impl.CodeOf(l, "m", no)
		old, still := impl.CodeOf(l, "m", no-1)
		if _, third := impl.CodeOf(l, "m", no-2); !ok || !still || third || !plainSameCode(cur, numCode(no)) || !plainSameCode(old, numCode(no-1)) {
			t.Fatal(no, ok, still, third, cur, old)
		}
		again, code := impl.LoadCode(l, "m", numCode(0))
		if no < 10000 && code != impl.TabOld || no == 10000 && code != impl.TabFull || !sameTable(again, l) {
			t.Fatal(no, "a third one:", code)
		}
		l, code = impl.PurgeCode(l, "m")
		if _, still = impl.CodeOf(l, "m", no-1); still || code != impl.TabGood {
			t.Fatal(no, "purged:", still, code)
		}
	}
	if _, code = loads(t, "behind 10000", l, "m", numCode(0)); code != impl.TabFull {
		t.Error("the number behind 10000:", code)
	}
	if !sameTable([]impl.Entry{l[0], l[2]}, around) || len(l) != 3 {
		t.Error("the others are not as they were:", tableText(l))
	}
}

// spoilTable changes one thing, most often to what is wrong.
func spoilTable(r *rand.Rand, l []impl.Entry) []impl.Entry {
	l = plainCopyTable(l)
	if len(l) == 0 {
		return []impl.Entry{{}}
	}
	at := r.Intn(len(l))
	e := &l[at]
	switch r.Intn(9) {
	case 0:
		e.No = []int{-1, 0, 1, 2, 9999, 10000, 10001}[r.Intn(7)]
	case 1:
		e.Name = []string{"", "A", "a", "zz", l[0].Name, l[len(l)-1].Name, e.Name + "_"}[r.Intn(7)]
	case 2:
		e.HasOld = !e.HasOld
	case 3:
		e.Old = []impl.Code{{}, numCode(4), {Pats: []impl.Pat{{}}}, wrongCodes()[r.Intn(10)]}[r.Intn(4)]
	case 4:
		e.Cur = []impl.Code{{}, numCode(4), {Pats: []impl.Pat{{}}}, wrongCodes()[r.Intn(10)]}[r.Intn(4)]
	case 5:
		other := r.Intn(len(l))
		l[at], l[other] = l[other], l[at]
	case 6:
		if len(e.Cur.Fns) > 0 {
			spoilCode(r, &e.Cur)
		}
	case 7:
		if len(e.Old.Fns) > 0 {
			spoilCode(r, &e.Old)
		}
	case 8:
		l = slices.Insert(l, at, plainCopyTable(l[at:at+1])...)
	}
	return l
}

func TestTableByAnotherWitness(t *testing.T) {
	r := rand.New(rand.NewSource(12))
	names := []string{"a", "b", "b0", "b_", "ba", "c", "case", "d", "e", "f", "g", "h", "i", "m"}
	codes := slices.Collect(func(yield func(impl.Code) bool) {
		for i := range 5 {
			if !yield(numCode(i)) {
				return
			}
		}
	})
	codes = append(codes, vmCode(), impl.Code{}, wrongCodes()[0], wrongCodes()[5])
	var told [5]int
	var right, wrong, found, none int
	for range 50 {
		var l []impl.Entry
		for range 60 {
			name := names[r.Intn(len(names))]
			if r.Intn(30) == 0 {
				name = []string{"", "A", twentySmall + "x"}[r.Intn(3)]
			}
			var code int
			if r.Intn(3) > 0 {
				l, code = loads(t, "of all", l, name, codes[r.Intn(len(codes))])
			} else {
				l, code = purges(t, "of all", l, name)
			}
			told[code]++
			if r.Intn(20) == 0 && len(l) > 0 {
				l[r.Intn(len(l))].No = []int{1, 9999, 10000}[r.Intn(3)]
			}
			if !plainTableOk(l) {
				l = nil
			}
			spoilt := spoilTable(r, l)
			is := plainTableOk(spoilt)
			tableIs(t, "spoilt", spoilt, is)
			if is {
				right++
			} else {
				wrong++
			}
			_, loaded := loads(t, "spoilt", spoilt, name, codes[0])
			_, purged := purges(t, "spoilt", spoilt, name)
			told[loaded]++
			told[purged]++
			for _, no := range []int{0, 1, 2, 3, 9999, 10000} {
				if _, ok := codeFrom(t, "spoilt", spoilt, name, no); ok {
					found++
				} else {
					none++
				}
			}
		}
	}
	for code, many := range told {
		if many < 100 {
			t.Error("too few to tell anything of code", code, many)
		}
	}
	if right < 1000 || wrong < 1000 || found < 1000 || none < 1000 {
		t.Error("too few to tell anything:", right, wrong, found, none)
	}
}

// TestTableLeavesArgumentsAlone: and what stands behind a list's length is neither read nor written.
func TestTableLeavesArgumentsAlone(t *testing.T) {
	build := func() ([]impl.Entry, []impl.Fn, []impl.Ins, []impl.Pat, []impl.Pat) {
		ins := append(asm("load 0; match 0 4; load 1; jump 5; fail; ret"), asm("fail; int 1")...)
		parts := []impl.Pat{slotP(1), slotP(-1), slotP(1), {K: 99}}
		fns := []impl.Fn{{Name: "f", Args: 1, Slots: 2, Ins: ins[:6]}, fnOf("f", 0, 0, "ret"), {}}
		pats := []impl.Pat{{K: impl.XTuple, E: parts[:2]}, {K: 99}, {}}
		c := impl.Code{Fns: fns[:1], Pats: pats[:1]}
		l := []impl.Entry{entryOf("a", 1, c), entryWithOld("c", 2, c, c), entryOf("a", 0, c), {}, {}}
		return l, fns, ins, pats, parts
	}
	l, fns, ins, pats, parts := build()
	wantL, wantFns, wantIns, wantPats, wantParts := build()
	c := impl.Code{Fns: fns[:1], Pats: pats[:1]}
	for size := range 3 {
		tableIs(t, "with room behind", l[:size], true)
		for _, name := range []string{"a", "b", "c", "d", "A"} {
			loads(t, "with room behind", l[:size], name, c)
			purges(t, "with room behind", l[:size], name)
			codeFrom(t, "with room behind", l[:size], name, 1)
			want := map[string]int{"a": min(size, 1), "c": size / 2 * 2}[name]
			newestIs(t, "with room behind", l[:size], name, want)
		}
	}
	tableIs(t, "with what was behind", l[:3], false)
	tableIs(t, "with what was behind, of a Cur", []impl.Entry{entryOf("a", 1, impl.Code{Fns: fns[:2], Pats: pats})}, false)
	if !sameTable(l, wantL) || !slices.EqualFunc(fns, wantFns, sameFn) || !slices.Equal(ins, wantIns) || !slices.EqualFunc(pats, wantPats, samePat) || !slices.EqualFunc(parts, wantParts, samePat) {
		t.Error("a call wrote into its argument, or behind it")
	}
}

// TestTableSharesNoMemory: one code everywhere in the arguments is apart at each place of an answer.
func TestTableSharesNoMemory(t *testing.T) {
	both := []impl.Pat{slotP(0), atomP("b")}
	inner := impl.Pat{K: impl.XList, E: both}
	insList := asm("load 0; match 0 3; fail; ret")
	c := impl.Code{Fns: []impl.Fn{{Name: "f", Slots: 1, Ins: insList}, {Name: "g", Slots: 1, Ins: insList}}, Pats: []impl.Pat{{K: impl.XTuple, E: both}, inner, tupleP(inner, inner), inner}}
	l := []impl.Entry{entryWithOld("a", 2, c, c), entryOf("b", 1, c), entryWithOld("d", 3, c, c)}
	for _, name := range []string{"a", "b", "c", "d", "e", "E"} {
		loads(t, "one code", l, name, c)
		purges(t, "one code", l, name)
		for no := range 4 {
			codeFrom(t, "one code", l, name, no)
		}
	}
	// Refused ones, right or not, are apart, too.
	for what, wrong := range notTables() {
		if len(wrong[0].Cur.Fns) > 0 {
			for i := range wrong {
				wrong[i].Cur, wrong[i].Old = c, c
			}
			wrong = append(wrong, wrong...)
		}
		loads(t, what, wrong, "a", c)
		purges(t, what, wrong, "a")
	}
	// What is answered may be written into, up to its room, and nothing else changes.
	want := plainCopyTable(l)
	got, code := impl.LoadCode(l, "b", c)
	if code != impl.TabGood {
		t.Fatal(code)
	}
	for _, at := range []int{0, 2, 1} {
		for _, d := range []impl.Code{got[at].Cur, got[at].Old} {
			if !plainSameCode(d, c) {
				t.Error("code is not apart:", d)
			}
			for i := range d.Pats {
				room := d.Pats[i].E[:cap(d.Pats[i].E)]
				clear(room)
			}
			for i := range d.Fns {
				clear(d.Fns[i].Ins[:cap(d.Fns[i].Ins)])
			}
			clear(d.Pats[:cap(d.Pats)])
			clear(d.Fns[:cap(d.Fns)])
		}
	}
	clear(got[:cap(got)])
	if !sameTable(l, want) {
		t.Error("what was written into an answer is in the argument, too")
	}
	// Texts over bytes that change.
	text := []byte("moduleatomfnamemodulf")
	name, atom, fname, other := unsafe.String(&text[0], 6), unsafe.String(&text[6], 4), unsafe.String(&text[10], 5), unsafe.String(&text[15], 6)
	d := impl.Code{Fns: []impl.Fn{{Name: fname, Ins: []impl.Ins{{Op: impl.InAtom, S: atom}, {Op: impl.InRet}}}}, Pats: []impl.Pat{atomP(atom), tupleP(atomP(atom))}}
	got, code = impl.LoadCode([]impl.Entry{entryWithOld(name, 2, d, d)}, other, d)
	refused, form := impl.LoadCode([]impl.Entry{entryOf(name, 0, d)}, other, d)
	purged, gone := impl.PurgeCode([]impl.Entry{entryWithOld(name, 2, d, d)}, name)
	of, ok := impl.CodeOf([]impl.Entry{entryWithOld(name, 2, d, d)}, name, 1)
	if string(text) != "moduleatomfnamemodulf" {
		t.Error("a text was written into")
	}
	overwrite(text)
	d = impl.Code{Fns: []impl.Fn{{Name: "fname", Ins: asm("atom atom; ret")}}, Pats: []impl.Pat{atomP("atom"), tupleP(atomP("atom"))}}
	if code != impl.TabGood || !sameTable(got, []impl.Entry{entryWithOld("module", 2, d, d), entryOf("modulf", 1, d)}) {
		t.Error("LoadCode:", code, tableText(got))
	}
	if form != impl.TabForm || !sameTable(refused, []impl.Entry{entryOf("module", 0, d)}) {
		t.Error("LoadCode, refused:", form, tableText(refused))
	}
	if gone != impl.TabGood || !sameTable(purged, []impl.Entry{entryOf("module", 2, d)}) {
		t.Error("PurgeCode:", gone, tableText(purged))
	}
	if !ok || !plainSameCode(of, d) {
		t.Error("CodeOf:", ok, of)
	}
}

// alikeTables: by SameCode, which comes to an end whatever it is given.
func alikeTables(a []impl.Entry, b []impl.Entry) bool {
	return slices.EqualFunc(a, b, func(d impl.Entry, e impl.Entry) bool {
		return d.Name == e.Name && d.No == e.No && d.HasOld == e.HasOld && impl.SameCode(d.Cur, e.Cur) && impl.SameCode(d.Old, e.Old)
	})
}

// TestTableOfPatternsWithoutEnd: patterns that no Ins names may be very deep, share very often, or have no end, in code that is right.
func TestTableOfPatternsWithoutEnd(t *testing.T) {
	for i, p := range endlessPats(10000) {
		c := impl.Code{Fns: []impl.Fn{fnOf("f", 0, 0, "fail")}, Pats: []impl.Pat{intP(1), p, p}}
		if !impl.CodeOk(c) {
			t.Fatal(i)
		}
		l, code := impl.LoadCode([]impl.Entry{entryOf("z", 1, c)}, "a", c)
		if code != impl.TabGood || !alikeTables(l, []impl.Entry{entryOf("a", 1, c), entryOf("z", 1, c)}) {
			t.Fatal(i, "loaded:", code, len(l))
		}
		if len(p.E) > 0 && (&l[0].Cur.Pats[1].E[0] == &p.E[0] || &l[1].Cur.Pats[1].E[0] == &p.E[0]) {
			t.Error(i, "shares memory with an argument")
		}
		l, code = impl.LoadCode(l, "a", numCode(1))
		if code != impl.TabGood || !alikeTables(l, []impl.Entry{entryWithOld("a", 2, numCode(1), c), entryOf("z", 1, c)}) {
			t.Fatal(i, "loaded again:", code, len(l))
		}
		old, ok := impl.CodeOf(l, "a", 1)
		if !ok || !impl.SameCode(old, c) || len(p.E) > 0 && &old.Pats[1].E[0] == &l[0].Old.Pats[1].E[0] {
			t.Error(i, "CodeOf:", ok)
		}
		refused, code := impl.LoadCode(l, "a", c)
		if code != impl.TabOld || !alikeTables(refused, l) {
			t.Error(i, "refused:", code)
		}
		l, code = impl.PurgeCode(l, "a")
		if code != impl.TabGood || !alikeTables(l, []impl.Entry{entryOf("a", 2, numCode(1)), entryOf("z", 1, c)}) {
			t.Error(i, "purged:", code)
		}
		// Named by an Ins it makes code wrong.
		c.Fns[0] = fnOf("f", 0, 0, "int 1; match 1 3; fail; ret")
		for _, wrong := range [][]impl.Entry{{entryOf("a", 1, c)}, {entryWithOld("a", 2, numCode(1), c)}} {
			got, code := impl.LoadCode(wrong, "a", numCode(1))
			if code != impl.TabForm || !alikeTables(got, wrong) {
				t.Error(i, "named:", code)
			}
		}
	}
}

// TestTableOfVeryDeepPatterns: deeper than the program's own stack could go.
func TestTableOfVeryDeepPatterns(t *testing.T) {
	const deep = 4000000
	c := impl.Code{Pats: []impl.Pat{nestedP(impl.XList, deep, intP(1))}}
	l, code := impl.LoadCode(nil, "a", c)
	if code != impl.TabGood || len(l) != 1 || len(l[0].Cur.Pats) != 1 {
		t.Fatal(code, len(l))
	}
	parts, depth := c.Pats, 0
	for own := l[0].Cur.Pats; len(own) > 0; own, parts = own[0].E, parts[0].E {
		if &own[0] == &parts[0] || own[0].K != parts[0].K || own[0].N != parts[0].N {
			t.Fatal("shares memory, or is another one,", depth, "deep")
		}
		depth++
	}
	if len(parts) > 0 {
		t.Error("ends", depth, "deep")
	}
}

// TestTableOfVeryMuch: tables that hold very many entries, the same very often, or very long texts.
func TestTableOfVeryMuch(t *testing.T) {
	const many = 20000
	long := strings.Repeat("a", 10*many)
	insList := make([]impl.Ins, many)
	fns := slices.Repeat([]impl.Fn{{Name: long, Ins: insList}}, many)
	longIns := slices.Repeat([]impl.Ins{{Op: impl.InAtom, S: long}}, many)
	endless := impl.Code{Pats: endlessPats(1000)}
	for what, l := range map[string][]impl.Entry{
		"very many":                make([]impl.Entry, 10*many),
		"one Name":                 slices.Repeat([]impl.Entry{entryOf("a", 1, numCode(1))}, many),
		"a long Name":              slices.Repeat([]impl.Entry{entryOf(long, 1, impl.Code{})}, many),
		"very many Fns":            {entryWithOld("a", 2, impl.Code{Fns: make([]impl.Fn, many)}, impl.Code{Fns: make([]impl.Fn, many)})},
		"Fns of very many Ins":     {entryWithOld("a", 2, impl.Code{Fns: fns}, impl.Code{Fns: fns})},
		"one code very often":      slices.Repeat([]impl.Entry{entryWithOld("a", 2, impl.Code{Fns: fns}, impl.Code{Fns: fns})}, many),
		"a list of Fns very often": slices.Repeat([]impl.Entry{entryOf("a", 1, impl.Code{Fns: make([]impl.Fn, many)})}, many),
		"long texts":               {entryOf("a", 1, impl.Code{Fns: []impl.Fn{{Name: "f", Ins: longIns}}}), entryOf("b", 1, impl.Code{Fns: []impl.Fn{{Name: "f", Ins: longIns}}})},
		"long texts of patterns":   {entryOf("a", 1, impl.Code{Pats: timesP(many, atomP(long))})},
		"endless":                  {entryWithOld("a", 2, endless, endless), {}},
		"endless very often":       slices.Repeat([]impl.Entry{entryWithOld("a", 2, endless, endless)}, many),
	} {
		if impl.TableOk(l) {
			t.Error(what, "are right")
		}
		got, code := impl.LoadCode(l, "a", numCode(1))
		purged, form := impl.PurgeCode(l, "a")
		if code != impl.TabForm || form != impl.TabForm || len(got) != len(l) || len(purged) != len(l) {
			t.Error(what, code, form, len(got), len(purged))
		}
		for _, at := range []int{0, len(l) / 2, len(l) - 1} {
			if !alikeTables(got[at:at+1], l[at:at+1]) || !alikeTables(purged[at:at+1], l[at:at+1]) {
				t.Error(what, "is another one at", at)
			}
		}
		if meeting(append(listSpan(got), listSpan(purged)...), append([]span{}, listSpan(l)...)) || len(l[0].Cur.Fns) > 0 && &got[0].Cur.Fns[0] == &l[0].Cur.Fns[0] {
			t.Error(what, "shares memory with its argument")
		}
		if c, ok := impl.CodeOf(l, l[0].Name, l[0].No); !ok || !impl.SameCode(c, l[0].Cur) {
			t.Error(what, "CodeOf:", ok)
		}
		if no := impl.NewestOf(l, l[0].Name); no != l[0].No || impl.NewestOf(l, "none") != 0 {
			t.Error(what, "NewestOf:", no)
		}
	}
	for what, c := range map[string]impl.Code{"very many Pats": {Pats: make([]impl.Pat, many)}, "very many Fns": {Fns: fns}, "very many Ins": {Fns: []impl.Fn{{Name: "f", Ins: insList}}}, "a long text": {Fns: []impl.Fn{{Name: "f", Ins: []impl.Ins{{Op: impl.InAtom, S: long}, {Op: impl.InRet}}}}}} {
		if got, code := impl.LoadCode(tableOf(2), "a", c); code != impl.TabForm || !sameTable(got, tableOf(2)) {
			t.Error(what, code)
		}
	}
	for _, name := range []string{long, strings.Repeat("A", 10*many)} {
		got, code := impl.LoadCode(tableOf(2), name, numCode(1))
		purged, form := impl.PurgeCode(tableOf(2), name)
		if code != impl.TabForm || form != impl.TabForm || !sameTable(got, tableOf(2)) || !sameTable(purged, tableOf(2)) {
			t.Error("a long name:", code, form)
		}
		if _, ok := impl.CodeOf(tableOf(2), name, 1); ok || impl.NewestOf(tableOf(2), name) != 0 {
			t.Error("a long name is there")
		}
	}
}

// TestTableOfMostWork: 10 modules, each with an Old, of as many Fns, Ins and patterns as there may be.
func TestTableOfMostWork(t *testing.T) {
	c := impl.Code{Pats: timesP(2000, manySlots(280))}
	for i := range 12 {
		f := impl.Fn{Name: twentySmall[:18] + fmt.Sprintf("%02d", i), Args: 4, Slots: 400, Ins: asm("int 1000000000000; match " + strconv.Itoa(i) + " 3; fail")}
		for len(f.Ins) < 1499 {
			f.Ins = append(f.Ins, impl.Ins{Op: impl.InAtom, S: twentySmall}, impl.Ins{Op: impl.InOp, S: "=="})
		}
		f.Ins = append(f.Ins, impl.Ins{Op: impl.InRet})
		c.Fns = append(c.Fns, f)
	}
	var l []impl.Entry
	for i := range 10 {
		l = append(l, entryWithOld(twentySmall[:19]+strconv.Itoa(i), 10000, c, c))
	}
	if !impl.TableOk(l) {
		t.Fatal("not right")
	}
	got, code := impl.PurgeCode(l, l[9].Name)
	if code != impl.TabGood || !alikeTables(got[:9], l[:9]) || !alikeTables(got[9:], []impl.Entry{entryOf(l[9].Name, 10000, c)}) {
		t.Error("purged:", code)
	}
	l[9].No = 9999
	l[9].HasOld, l[9].Old = false, impl.Code{}
	got, code = impl.LoadCode(l, l[9].Name, c)
	if code != impl.TabGood || !alikeTables(got[:9], l[:9]) || !alikeTables(got[9:], []impl.Entry{entryWithOld(l[9].Name, 10000, c, c)}) {
		t.Error("loaded:", code)
	}
	if _, code = impl.LoadCode(got, l[9].Name, c); code != impl.TabFull {
		t.Error("loaded again:", code)
	}
}
