package tests

import (
	"bytes"
	"encoding/binary"
	"fmt"
	"math"
	"math/rand"
	"slices"
	"strconv"
	"strings"
	"testing"
	"unsafe"

	"loop.example/g00236/impl"
)

// codeField: a number or a text of the bytes of code, by its name in the chapter (of a count: what is counted).
type codeField struct {
	name   string
	n      int
	s      string
	isText bool
}

func (f codeField) bytes() []byte {
	if f.isText {
		return append(binary.AppendVarint(nil, int64(len(f.s))), f.s...)
	}
	return binary.AppendVarint(nil, int64(f.n))
}

func numField(name string, n int) codeField { return codeField{name: name, n: n} }

func textField(name string, s string) codeField { return codeField{name: name, s: s, isText: true} }

func patFields(p impl.Pat) []codeField {
	l := []codeField{numField("K", p.K), numField("N", p.N), textField("S", p.S), numField("E", len(p.E))}
	for _, part := range p.E {
		l = append(l, patFields(part)...)
	}
	return l
}

// codeFields: the chapter's words once more, of code right or not.
func codeFields(c impl.Code) []codeField {
	l := []codeField{numField("Fns", len(c.Fns))}
	for _, f := range c.Fns {
		l = append(l, textField("Name", f.Name), numField("Args", f.Args), numField("Slots", f.Slots), numField("Ins", len(f.Ins)))
		for _, in := range f.Ins {
			l = append(l, numField("Op", in.Op), numField("N", in.N), textField("S", in.S), numField("To", in.To))
		}
	}
	l = append(l, numField("Pats", len(c.Pats)))
	for _, p := range c.Pats {
		l = append(l, patFields(p)...)
	}
	return l
}

func fieldBytes(l []codeField) []byte {
	var b []byte
	for _, f := range l {
		b = append(b, f.bytes()...)
	}
	return b
}

// plainBytes: of code right or not.
func plainBytes(c impl.Code) []byte { return fieldBytes(codeFields(c)) }

func plainCanBePut(c impl.Code) bool {
	return plainCodeOk(c) && !slices.ContainsFunc(c.Pats, func(p impl.Pat) bool { return !plainFits(p, 400) })
}

// plainGet takes bytes for code where code that is right has just them. Its depth is that of the bytes.
func plainGet(b []byte) (c impl.Code, ok bool) {
	defer func() {
		if recover() != nil {
			c, ok = impl.Code{}, false
		}
	}()
	rest := b
	num := func() int {
		n, size := binary.Varint(rest)
		if size <= 0 {
			panic("no number")
		}
		rest = rest[size:]
		return int(n)
	}
	text := func() string {
		size := num()
		s := string(rest[:size])
		rest = rest[size:]
		return s
	}
	var pat func() impl.Pat
	pat = func() impl.Pat {
		p := impl.Pat{K: num()}
		p.N = num()
		p.S = text()
		for range num() {
			p.E = append(p.E, pat())
		}
		return p
	}
	for range num() {
		f := impl.Fn{Name: text()}
		f.Args = num()
		f.Slots = num()
		for range num() {
			in := impl.Ins{Op: num()}
			in.N = num()
			in.S = text()
			in.To = num()
			f.Ins = append(f.Ins, in)
		}
		c.Fns = append(c.Fns, f)
	}
	for range num() {
		c.Pats = append(c.Pats, pat())
	}
	if !bytes.Equal(plainBytes(c), b) || !plainCanBePut(c) {
		return impl.Code{}, false
	}
	return c, true
}

// sameIs: what SameCode answers is this, in both orders, and as the witness has it; it leaves its arguments as they are.
func sameIs(t *testing.T, what string, a impl.Code, b impl.Code, want bool) {
	t.Helper()
	keptA, keptB := plainCopyCode(a), plainCopyCode(b)
	if one, other := impl.SameCode(a, b), impl.SameCode(b, a); one != want || other != want || plainSameCode(a, b) != want {
		t.Errorf("%s: %v, %v, the witness %v, not %v", what, one, other, plainSameCode(a, b), want)
	}
	if !plainSameCode(a, keptA) || !plainSameCode(b, keptB) {
		t.Errorf("%s: SameCode wrote into an argument", what)
	}
}

// getsCode: what GetCode answers is as the witness has it, of just these bytes, and in memory of its own; it leaves its argument, and what lies behind it, as they are.
func getsCode(t *testing.T, what string, b []byte) (impl.Code, bool) {
	t.Helper()
	want, wanted := plainGet(b)
	room := append(bytes.Clone(b), 0, 2, 0x80, 0xee)
	kept := bytes.Clone(room)
	c, ok := impl.GetCode(room[:len(b)])
	if ok != wanted || !plainSameCode(c, want) {
		t.Fatalf("%s: %x: %v, %+v, not %v, %+v", what, b, ok, c, wanted, want)
	}
	if !ok && (len(c.Fns) > 0 || len(c.Pats) > 0) {
		t.Fatalf("%s: %x: not the zero one beside false: %+v", what, b, c)
	}
	if !bytes.Equal(room, kept) {
		t.Fatalf("%s: %x: GetCode wrote into its argument, or behind it", what, b)
	}
	if meeting(codeSpans(c), append([]span{}, listSpan(room)...)) {
		t.Fatalf("%s: %x: the code shares memory with the bytes", what, b)
	}
	if meeting(codeListSpans(c), nil) {
		t.Fatalf("%s: %x: two lists of the code share memory", what, b)
	}
	if ok && !bytes.Equal(impl.PutCode(c), b) {
		t.Fatalf("%s: %x was read, but its bytes are %x", what, b, impl.PutCode(c))
	}
	return c, ok
}

// putsCode: what PutCode answers is as the witness has it, and in memory of its own; it leaves its argument as it is; what was put comes back, and nothing else does.
func putsCode(t *testing.T, what string, c impl.Code, want bool) []byte {
	t.Helper()
	kept := plainCopyCode(c)
	b := impl.PutCode(c)
	wanted := plainBytes(c)
	if plainCanBePut(c) != want {
		t.Fatalf("%s: the witness has it as %v", what, !want)
	}
	if !want {
		wanted = nil
	}
	if !bytes.Equal(b, wanted) {
		t.Fatalf("%s: %x, not %x", what, b, wanted)
	}
	if !plainSameCode(c, kept) {
		t.Fatalf("%s: PutCode wrote into its argument", what)
	}
	if meeting(listSpan(b), append([]span{}, codeSpans(c)...)) {
		t.Fatalf("%s: the bytes share memory with the code", what)
	}
	back, ok := getsCode(t, what, plainBytes(c))
	if ok != want || want && !impl.SameCode(back, c) || want && !plainSameCode(back, c) {
		t.Fatalf("%s: %v, %+v came back", what, ok, back)
	}
	return b
}

// matchOf: code of one Fn, of so many Slots, that matches each of the patterns once.
func matchOf(slots int, pats ...impl.Pat) impl.Code {
	f := impl.Fn{Name: "f", Slots: slots, Ins: asm("int 0")}
	for i := range pats {
		f.Ins = append(f.Ins, impl.Ins{Op: impl.InMatch, N: i, To: len(f.Ins) + 2}, impl.Ins{Op: impl.InFail})
	}
	f.Ins = append(f.Ins, impl.Ins{Op: impl.InRet})
	return impl.Code{Fns: []impl.Fn{f}, Pats: pats}
}

// putCodes: code that can be put, of every kind of Ins and of pattern.
func putCodes() map[string]impl.Code {
	long := impl.Ins{Op: impl.InAtom, S: twentySmall}
	return map[string]impl.Code{
		"the zero one":  {},
		"empty lists":   {Fns: []impl.Fn{}, Pats: []impl.Pat{}},
		"without Fns":   {Pats: []impl.Pat{slotP(-1), tupleP(intP(7), listP(), consP(slotP(399), atomP("a")))}},
		"without Pats":  {Fns: []impl.Fn{fnOf("f", 0, 0, "int 1; ret"), fnOf("g", 4, 400, "load 399; ret")}},
		"the machine's": vmCode(),
		"each Ins":      {Fns: []impl.Fn{fnOf("f", 2, 5, "int 1000000000000; atom ok; load 4; tuple 0; tuple 3; list 0; list 2; int 64; cons 2; int 8192; op ==; load 1; call f 2; tuple 2; match 0 17; int 63; jump 18; fail; ret"), fnOf("g", 0, 0, "fail"), {Name: twentySmall, Slots: 64, Ins: []impl.Ins{long, {Op: impl.InRet}}}}, Pats: []impl.Pat{consP(slotP(2), slotP(-1), tupleP(slotP(3), atomP("b"), intP(impl.MaxInt)))}},
		"each pattern":  matchOf(400, intP(0), intP(impl.MaxInt), atomP("a"), atomP(twentySmall), slotP(0), slotP(399), slotP(-1), tupleP(), tupleP(timesP(20, slotP(-1))...), listP(), listP(slotP(1), slotP(0)), consP(slotP(2), slotP(1)), consP(timesP(6, intP(63))...)),
		"named by none": {Fns: []impl.Fn{fnOf("f", 0, 1, "int 1; match 1 3; fail; ret")}, Pats: []impl.Pat{slotP(1), slotP(0), tupleP(slotP(399), slotP(398))}},
	}
}

// patsFit400: patterns, and whether they PatFit 400.
func patsFit400() []struct {
	what string
	p    impl.Pat
	want bool
} {
	type row = struct {
		what string
		p    impl.Pat
		want bool
	}
	l := []row{
		{"slot 399", slotP(399), true}, {"slot 400", slotP(400), false}, {"slot -1", slotP(-1), true}, {"slot -2", slotP(-2), false}, {"no kind", impl.Pat{}, false}, {"an operation", impl.Pat{K: impl.XOp, S: "+", E: timesP(2, intP(1))}, false}, {"a call", impl.Pat{K: impl.XCall, S: "f"}, false}, {"a case", impl.Pat{K: impl.XCase, E: timesP(1, intP(1))}, false}, {"K below 0", impl.Pat{K: -1}, false},
		{"a slot twice", tupleP(slotP(3), slotP(3)), false}, {"-1 twice", tupleP(slotP(-1), slotP(-1)), true}, {"two slots", tupleP(slotP(399), slotP(0)), true}, {"a name", impl.Pat{K: impl.XVar, S: "A"}, false}, {"a number with S", impl.Pat{K: impl.XInt, S: "a"}, false}, {"a tuple with N", impl.Pat{K: impl.XTuple, N: 1}, false}, {"a tuple with S", impl.Pat{K: impl.XTuple, S: "a"}, false}, {"an atom with N", impl.Pat{K: impl.XAtom, N: 1, S: "a"}, false}, {"a number with E", impl.Pat{K: impl.XInt, E: timesP(1, intP(1))}, false},
		{"a number below 0", intP(-1), false}, {"the greatest number", intP(impl.MaxInt), true}, {"a number beyond", intP(impl.MaxInt + 1), false}, {"case", atomP("case"), false}, {"of", atomP("of"), false}, {"end", atomP("end"), false}, {"no text", atomP(""), false}, {"20 letters", atomP(twentySmall), true}, {"21 letters", atomP(twentySmall + "u"), false}, {"no atom", atomP("A"), false},
		{"20 parts", tupleP(timesP(20, intP(1))...), true}, {"21 parts", tupleP(timesP(21, intP(1))...), false}, {"20 in a list", listP(timesP(20, intP(1))...), true}, {"21 in a list", listP(timesP(21, intP(1))...), false}, {"a cons of none", consP(), false}, {"a cons of one", consP(intP(1)), false}, {"a cons of two", consP(intP(1), slotP(1)), true}, {"a cons of six", consP(timesP(6, intP(1))...), true}, {"a cons of seven", consP(timesP(7, intP(1))...), false},
		{"300 in all", countedP(300), true}, {"301 in all", countedP(301), false}, {"a wrong one far within", tupleP(intP(1), listP(consP(intP(1), tupleP(slotP(400))))), false}, {"a right one far within", tupleP(intP(1), listP(consP(intP(1), tupleP(slotP(399))))), true},
	}
	for _, k := range []int{impl.XTuple, impl.XList, impl.XCons} {
		l = append(l, row{"10 deep", nestedP(k, 9, slotP(5)), true}, row{"11 deep", nestedP(k, 10, slotP(5)), false})
	}
	return l
}

func TestCodeBytesForms(t *testing.T) {
	m := moduleOf(t, "f(X)->case X of {A,_}->A; 5->ok end.")
	compiled, _ := impl.Compile(m)
	for _, x := range []struct {
		what string
		c    impl.Code
		want string
	}{
		{"the zero one", impl.Code{}, "\x00 \x00"},
		{"a pattern", impl.Code{Pats: []impl.Pat{slotP(-1)}}, "\x00 \x02 \x06\x01\x00\x00"},
		{"patterns", impl.Code{Pats: []impl.Pat{consP(atomP("ab"), slotP(3)), intP(100)}}, "\x00 \x04 \x0c\x00\x00\x04 \x04\x00\x04ab\x00 \x06\x06\x00\x00 \x02\xc8\x01\x00\x00"},
		{"a Fn", impl.Code{Fns: []impl.Fn{fnOf("go", 3, 100, "fail")}}, "\x02 \x04go\x06\xc8\x01\x02 \x16\x00\x00\x00 \x00"},
		{"two Fns", impl.Code{Fns: []impl.Fn{fnOf("f", 1, 2, "int 70; load 1; op <; ret"), fnOf("g", 0, 0, "atom yes; call f 1; jump 3; ret")}}, "\x04 \x02f\x02\x04\x08 \x02\x8c\x01\x00\x00 \x06\x02\x00\x00 \x0e\x00\x02<\x00 \x18\x00\x00\x00 \x02g\x00\x00\x08 \x04\x00\x06yes\x00 \x10\x02\x02f\x00 \x14\x00\x00\x06 \x18\x00\x00\x00 \x00"},
		{"compiled", compiled, "\x02 \x02f\x02\x04\x12 \x06\x00\x00\x00 \x12\x00\x00\x08 \x06\x02\x00\x00 \x14\x00\x00\x10 \x12\x02\x00\x0e \x04\x00\x04ok\x00 \x14\x00\x00\x10 \x16\x00\x00\x00 \x18\x00\x00\x00 \x04 \x08\x00\x00\x04 \x06\x02\x00\x00 \x06\x01\x00\x00 \x02\x0a\x00\x00"},
		{"the greatest numbers", matchOf(400, slotP(399), intP(impl.MaxInt)), "\x02 \x02f\x00\xa0\x06\x0c \x02\x00\x00\x00 \x12\x00\x00\x06 \x16\x00\x00\x00 \x12\x02\x00\x0a \x16\x00\x00\x00 \x18\x00\x00\x00 \x04 \x06\x9e\x06\x00\x00 \x02\x80\xc0\xa8\xca\x9a\x3a\x00\x00"},
	} {
		// Blanks stand in these texts between what belongs together.
		want := strings.ReplaceAll(x.want, " ", "")
		if b := putsCode(t, x.what, x.c, true); string(b) != want {
			t.Errorf("%s: %x, not %x", x.what, b, want)
		}
		if c, ok := getsCode(t, x.what, []byte(want)); !ok || !plainSameCode(c, x.c) {
			t.Errorf("%s: %v, %+v", x.what, ok, c)
		}
	}
}

// TestCodeBytesInOrder: each field by PutNum and PutText, one behind the other.
func TestCodeBytesInOrder(t *testing.T) {
	var putPat func(b []byte, p impl.Pat) []byte
	putPat = func(b []byte, p impl.Pat) []byte {
		b = impl.PutNum(impl.PutText(impl.PutNum(impl.PutNum(b, p.K), p.N), p.S), len(p.E))
		for _, part := range p.E {
			b = putPat(b, part)
		}
		return b
	}
	for what, c := range putCodes() {
		b := impl.PutNum(nil, len(c.Fns))
		for _, f := range c.Fns {
			b = impl.PutNum(impl.PutNum(impl.PutNum(impl.PutText(b, f.Name), f.Args), f.Slots), len(f.Ins))
			for _, in := range f.Ins {
				b = impl.PutNum(impl.PutText(impl.PutNum(impl.PutNum(b, in.Op), in.N), in.S), in.To)
			}
		}
		b = impl.PutNum(b, len(c.Pats))
		for _, p := range c.Pats {
			b = putPat(b, p)
		}
		if got := putsCode(t, what, c, true); !bytes.Equal(got, b) {
			t.Errorf("%s: %x, not %x", what, got, b)
		}
	}
}

func TestPutCodeOfWrongCode(t *testing.T) {
	for i, c := range wrongCodes() {
		putsCode(t, fmt.Sprint("wrong code ", i), c, false)
	}
	for _, c := range []impl.Code{{Fns: []impl.Fn{{}}}, {Fns: []impl.Fn{{Name: "f"}}}, {Fns: []impl.Fn{fnOf("f", 0, 0, "ret")}}, {Fns: []impl.Fn{fnOf("case", 0, 0, "fail")}}, {Fns: []impl.Fn{fnOf("f", -1, 0, "fail")}}, {Fns: []impl.Fn{fnOf("f", 0, 401, "fail")}}} {
		putsCode(t, "wrong code", c, false)
	}
	// Each field beyond what is allowed, up to what 64 bits hold: nothing is cut to what would be right.
	for what, c := range putCodes() {
		for i := range c.Fns {
			for at := range c.Fns[i].Ins {
				for _, n := range []int{math.MinInt, -impl.MaxInt - 1, -1, impl.MaxInt + 1, math.MaxInt} {
					for field := range 3 {
						wrong := plainCopyCode(c)
						in := &wrong.Fns[i].Ins[at]
						*[]*int{&in.Op, &in.N, &in.To}[field] = n
						if b := impl.PutCode(wrong); len(b) > 0 {
							t.Errorf("%s: Fn %d, Ins %d, field %d is %d: %x", what, i, at, field, n, b)
						}
					}
				}
			}
			for _, n := range []int{math.MinInt, -1, 401, math.MaxInt} {
				for field := range 2 {
					wrong := plainCopyCode(c)
					*[]*int{&wrong.Fns[i].Args, &wrong.Fns[i].Slots}[field] = n
					putsCode(t, what, wrong, false)
				}
			}
		}
	}
}

// TestPutCodeOfPats: patterns that an Ins names, and those that none does, at every place among others.
func TestPutCodeOfPats(t *testing.T) {
	for _, x := range patsFit400() {
		putsCode(t, x.what+", alone", impl.Code{Pats: []impl.Pat{x.p}}, x.want)
		putsCode(t, x.what+", named", matchOf(400, x.p), x.want)
		for at := range 3 {
			pats := []impl.Pat{slotP(0), tupleP(slotP(1), slotP(-1)), intP(2)}
			pats[at] = x.p
			for named := range 3 {
				c := impl.Code{Fns: []impl.Fn{fnOf("g", 0, 0, "fail"), fnOf("f", 1, 400, "load 0; match "+strconv.Itoa(named)+" 3; fail; ret")}, Pats: pats}
				codeIs(t, x.what, c, x.want || named != at)
				putsCode(t, fmt.Sprint(x.what, " at ", at, ", named: ", named), c, x.want)
			}
			putsCode(t, x.what+", none named", impl.Code{Fns: []impl.Fn{fnOf("f", 0, 0, "fail")}, Pats: pats}, x.want)
		}
	}
	// Without an Ins that names it a pattern needs no slots of any Fn, and still not more than 400.
	for _, slots := range []int{0, 1, 2, 399, 400} {
		for slot := -2; slot <= 402; slot++ {
			within := slot >= -1 && slot < 400
			putsCode(t, fmt.Sprint("slot ", slot, " beside ", slots), impl.Code{Fns: []impl.Fn{fnOf("f", 0, slots, "fail")}, Pats: []impl.Pat{listP(slotP(slot))}}, within)
		}
		for _, slot := range []int{-2, -1, 0, slots - 1, slots, 399, 400} {
			putsCode(t, fmt.Sprint("slot ", slot, " of ", slots), matchOf(slots, slotP(slot)), slot >= -1 && slot < slots)
		}
	}
}

func TestPutCodeWithoutFnsOrPats(t *testing.T) {
	for _, c := range []impl.Code{{}, {Fns: []impl.Fn{}}, {Pats: []impl.Pat{}}, {Fns: []impl.Fn{}, Pats: []impl.Pat{}}} {
		if b := putsCode(t, "nothing in it", c, true); string(b) != "\x00\x00" {
			t.Errorf("%x", b)
		}
	}
	for _, many := range []int{1, 2, 63, 64, 1999, 2000, 2001} {
		putsCode(t, "without Fns", impl.Code{Pats: timesP(many, tupleP(slotP(0)))}, many <= 2000)
	}
	for many := 1; many <= 14; many++ {
		var c impl.Code
		for i := range many {
			c.Fns = append(c.Fns, fnOf("f"+strconv.Itoa(i), i%5, i%5, "fail"))
		}
		putsCode(t, "without Pats", c, many <= 12)
	}
	// An empty list is none, wherever it stands.
	c := impl.Code{Fns: []impl.Fn{fnOf("f", 0, 0, "fail")}, Pats: []impl.Pat{{K: impl.XTuple, E: []impl.Pat{}}, {K: impl.XInt, E: []impl.Pat{}}, {K: impl.XVar, N: -1, E: []impl.Pat{}}}}
	if b := putsCode(t, "empty lists within", c, true); !bytes.Equal(b, impl.PutCode(impl.Code{Fns: c.Fns, Pats: []impl.Pat{tupleP(), intP(0), slotP(-1)}})) {
		t.Errorf("%x", b)
	}
}

func TestCodeBytesLimits(t *testing.T) {
	for _, many := range []int{1, 2, 63, 64, 1499, 1500, 1501, 1502, 3000} {
		l := append(asm("tuple 0"), slices.Repeat(asm("tuple 1"), many)...)[:many]
		l[many-1] = impl.Ins{Op: impl.InFail}
		putsCode(t, strconv.Itoa(many)+" Ins", impl.Code{Fns: []impl.Fn{fnOf("g", 0, 0, "int 1; ret"), {Name: "f", Ins: l}}}, many <= 1500)
	}
	for _, s := range []string{"a", "ok", "cases", "a1_", twentySmall, twentySmall + "u", "", "case", "of", "end", "A", "_", "1", "a b", "é", "a\x00"} {
		want := impl.AtomOk(s) && s != "case" && s != "of" && s != "end"
		putsCode(t, "a Name", impl.Code{Fns: []impl.Fn{{Name: s, Ins: asm("fail")}}}, want)
		putsCode(t, "an atom", impl.Code{Fns: []impl.Fn{{Name: "f", Ins: []impl.Ins{{Op: impl.InAtom, S: s}, {Op: impl.InRet}}}}}, want)
		putsCode(t, "an atom of a pattern", impl.Code{Pats: []impl.Pat{atomP(s)}}, want)
	}
	for _, n := range append(edgeNums(), math.MinInt, -impl.MaxInt-1, impl.MaxInt+1, math.MaxInt) {
		within := n >= 0 && n <= impl.MaxInt
		putsCode(t, "a number", impl.Code{Fns: []impl.Fn{{Name: "f", Ins: []impl.Ins{{Op: impl.InInt, N: n}, {Op: impl.InRet}}}}}, within)
		putsCode(t, "a number of a pattern", impl.Code{Pats: []impl.Pat{intP(n)}}, within)
	}
	for high := 295; high <= 305; high++ {
		l := append(slices.Repeat(asm("int 1"), high), impl.Ins{Op: impl.InFail})
		putsCode(t, strconv.Itoa(high)+" high", impl.Code{Fns: []impl.Fn{{Name: "f", Ins: l}}}, high <= 300)
	}
	for count := 295; count <= 305; count++ {
		putsCode(t, strconv.Itoa(count)+" in all, each of three", impl.Code{Pats: []impl.Pat{countedP(count), slotP(0), countedP(count)}}, count <= 300)
	}
}

func TestGetCodeOfCutBytes(t *testing.T) {
	for what, c := range putCodes() {
		b := impl.PutCode(c)
		if got, ok := getsCode(t, what, b); !ok || !plainSameCode(got, c) {
			t.Errorf("%s: %v, %+v", what, ok, got)
		}
		for size := range b {
			if _, ok := getsCode(t, what+", cut", b[:size]); ok {
				t.Errorf("%s: cut to %d bytes", what, size)
			}
			getsCode(t, what+", its end", b[len(b)-size:])
		}
		for n := range 256 {
			if _, ok := getsCode(t, what+", one more", append(bytes.Clone(b), byte(n))); ok {
				t.Errorf("%s: with %d behind", what, n)
			}
		}
		if _, ok := getsCode(t, what+", twice", append(bytes.Clone(b), b...)); ok {
			t.Errorf("%s: twice", what)
		}
		// One byte left out, or one more, anywhere.
		for at := range b {
			getsCode(t, what+", one left out", slices.Delete(bytes.Clone(b), at, at+1))
			for _, n := range []byte{0, 1, 2, 'a', 0x80, 0xff} {
				getsCode(t, what+", one put in", slices.Insert(bytes.Clone(b), at, n))
			}
		}
	}
	for _, b := range [][]byte{nil, {}, {0}, {1}, {2}, {0x80}, {0, 0, 0}} {
		if _, ok := getsCode(t, "hardly any bytes", b); ok {
			t.Errorf("%x", b)
		}
	}
}

// TestGetCodeOfChangedBytes: each byte in turn, to each other one.
func TestGetCodeOfChangedBytes(t *testing.T) {
	read, refused := 0, 0
	for what, c := range putCodes() {
		b := impl.PutCode(c)
		for at := range b {
			for n := range 256 {
				if byte(n) == b[at] {
					continue
				}
				changed := bytes.Clone(b)
				changed[at] = byte(n)
				got, ok := getsCode(t, fmt.Sprint(what, ", byte ", at, " changed"), changed)
				if !ok {
					refused++
					continue
				}
				read++
				if impl.SameCode(got, c) {
					t.Fatalf("%s: byte %d is %d: the same code of other bytes", what, at, n)
				}
			}
		}
	}
	if read < 500 || refused < 50000 {
		t.Error("too few to tell anything:", read, refused)
	}
}

// otherForms: bytes that tell a number in another form than PutNum's, or none.
func otherForms(n int) [][]byte {
	good := binary.AppendVarint(nil, int64(n))
	open := bytes.Clone(good)
	open[len(open)-1] |= 0x80
	return [][]byte{
		append(bytes.Clone(open), 0), append(bytes.Clone(open), 0x80, 0), append(bytes.Clone(open), 0x80, 0x80, 0x80, 0x80, 0x80, 0),
		append(bytes.Repeat([]byte{0x80}, 6), 1), bytes.Repeat([]byte{0xff}, 10), append(bytes.Repeat([]byte{0xff}, 5), 0x7f), bytes.Repeat([]byte{0x80}, 6),
		binary.AppendVarint(nil, impl.MaxInt+1), binary.AppendVarint(nil, -impl.MaxInt-1), binary.AppendVarint(nil, math.MaxInt), binary.AppendVarint(nil, math.MinInt),
		{},
	}
}

// TestGetCodeOfOtherForms: each number and each text in turn is not as it would be put.
func TestGetCodeOfOtherForms(t *testing.T) {
	for what, c := range putCodes() {
		l := codeFields(c)
		for i, f := range l {
			ahead, behind := fieldBytes(l[:i]), fieldBytes(l[i+1:])
			refuses := func(why string, b []byte) {
				t.Helper()
				if _, ok := getsCode(t, what, slices.Concat(ahead, b, behind)); ok {
					t.Errorf("%s: field %d, %s: %s", what, i, f.name, why)
				}
			}
			n := f.n
			if f.isText {
				n = len(f.s)
			}
			for _, form := range otherForms(n) {
				refuses(fmt.Sprintf("%x", form), slices.Concat(form, []byte(f.s)))
			}
			if !f.isText {
				continue
			}
			for _, size := range []int{-impl.MaxInt, -len(f.s), -1, len(f.s) - 1, len(f.s) + 1, len(f.s) + len(behind), len(f.s) + len(behind) + 1, impl.MaxInt} {
				if size != len(f.s) {
					getsCode(t, what, slices.Concat(ahead, binary.AppendVarint(nil, int64(size)), []byte(f.s), behind))
				}
				if size < 0 || size > len(f.s)+len(behind) {
					refuses("a size that can't be", append(binary.AppendVarint(nil, int64(size)), f.s...))
				}
			}
			refuses("without its bytes", binary.AppendVarint(nil, 1000))
			for _, s := range []string{strings.Repeat("a", 21), "case", "A", "é", "\x00", " "} {
				refuses("another text", textField(f.name, s).bytes())
			}
		}
	}
}

// TestGetCodeOfOtherNumbers: each number in turn is another one; what is read then is right all the same.
func TestGetCodeOfOtherNumbers(t *testing.T) {
	read := 0
	for what, c := range putCodes() {
		l := codeFields(c)
		for i, f := range l {
			if f.isText {
				continue
			}
			for _, n := range []int{-impl.MaxInt, -2, -1, 0, 1, 2, 3, 4, 5, 6, 7, 8, 9, 10, 11, 12, 13, 20, 21, 300, 399, 400, 401, 1500, 1501, 2000, 2001, impl.MaxInt, f.n - 1, f.n + 1} {
				changed := slices.Clone(l)
				changed[i].n = n
				_, ok := getsCode(t, fmt.Sprint(what, ", field ", i, ", ", f.name, ": ", n), fieldBytes(changed))
				if ok {
					read++
				}
				isCount := slices.Contains([]string{"Fns", "Ins", "Pats", "E"}, f.name)
				if ok && n != f.n && isCount {
					t.Errorf("%s: field %d, %s: %d in place of %d", what, i, f.name, n, f.n)
				}
			}
		}
	}
	if read < 500 {
		t.Error("too few to tell anything:", read)
	}
}

// TestGetCodeOfCounts: below 0, greater than what follows, and greater than what may be, with as many there.
func TestGetCodeOfCounts(t *testing.T) {
	refuses := func(what string, b []byte) {
		t.Helper()
		if _, ok := getsCode(t, what, b); ok {
			t.Errorf("%s: %x", what, b)
		}
	}
	for _, n := range []int{-impl.MaxInt, -65, -1, 1, 2, 12, 13, 64, 1500, 2000, 2001, 1 << 30, impl.MaxInt} {
		count := string(binary.AppendVarint(nil, int64(n)))
		for what, ahead := range map[string]string{"Fns": "", "Ins": "\x02\x02f\x00\x00", "Pats": "\x00", "Pats behind a Fn": "\x02\x02f\x00\x00\x02\x16\x00\x00\x00", "E": "\x00\x02\x08\x00\x00", "E of a part": "\x00\x02\x08\x00\x00\x02\x0a\x00\x00", "a Name": "\x02", "S of an Ins": "\x02\x02f\x00\x00\x02\x04\x00", "S of a pattern": "\x00\x02\x04\x00"} {
			refuses(what, []byte(ahead+count))
			refuses(what+", and a little", []byte(ahead+count+"\x00"))
			if n < 0 {
				refuses(what+", and as if it were 0", []byte(ahead+count+"\x00\x00"))
			}
		}
	}
	fn := func(i int) string { return "\x04" + string(rune('a'+i)) + "x\x00\x00\x02\x16\x00\x00\x00" }
	for _, more := range []int{0, 1} {
		fns := string(binary.AppendVarint(nil, int64(12+more)))
		for i := range 12 + more {
			fns += fn(i)
		}
		ins := "\x02\x02f\x00\x00" + string(binary.AppendVarint(nil, int64(1500+more))) + "\x08\x00\x00\x00" + strings.Repeat("\x08\x02\x00\x00", 1498+more) + "\x18\x00\x00\x00"
		pats := string(binary.AppendVarint(nil, int64(2000+more))) + strings.Repeat("\x02\x02\x00\x00", 2000+more)
		parts := "\x02\x08\x00\x00" + string(binary.AppendVarint(nil, int64(20+more))) + strings.Repeat("\x02\x02\x00\x00", 20+more)
		for what, s := range map[string]string{"Fns": fns + "\x00", "Ins": ins + "\x00", "Pats": "\x00" + pats, "E behind Ins": ins + parts, "E": "\x00" + parts} {
			if _, ok := getsCode(t, what, []byte(s)); ok != (more == 0) {
				t.Errorf("%s, %d more than may be: %v", what, more, ok)
			}
		}
	}
}

// TestGetCodeOfWrongCode: bytes that are put together well, of code that is not right or has a pattern that does not fit.
func TestGetCodeOfWrongCode(t *testing.T) {
	for i, c := range wrongCodes() {
		if _, ok := getsCode(t, "wrong code", plainBytes(c)); ok {
			t.Error("wrong code", i)
		}
	}
	for _, x := range patsFit400() {
		for _, c := range []impl.Code{{Pats: []impl.Pat{x.p}}, {Pats: []impl.Pat{intP(1), x.p, intP(1)}}, matchOf(400, x.p), {Fns: []impl.Fn{fnOf("f", 0, 0, "fail")}, Pats: []impl.Pat{x.p}}} {
			if _, ok := getsCode(t, x.what, plainBytes(c)); ok != x.want {
				t.Errorf("%s: %v", x.what, ok)
			}
		}
	}
}

// TestEveryFewBytes: of all rows of a few bytes just those are code that code has.
func TestEveryFewBytes(t *testing.T) {
	read := 0
	for size := range 6 {
		for row := range rowsOf([]byte{0, 1, 2, 3, 4, 6, 8, 10, 12, 0x80}, size) {
			for _, ahead := range []string{"", "\x00\x02", "\x00\x02\x08\x00\x00\x02", "\x02\x02f\x00\x00"} {
				if _, ok := getsCode(t, "a few bytes", append([]byte(ahead), row...)); ok {
					read++
				}
			}
		}
	}
	if read < 20 {
		t.Error("too few to tell anything:", read)
	}
}

// shuffledBytes: bytes of code, changed at some places, or mixed with those of other code.
func shuffledBytes(r *rand.Rand, b []byte, other []byte) []byte {
	b = bytes.Clone(b)
	for range 1 + r.Intn(3) {
		at := r.Intn(len(b) + 1)
		switch end := at + r.Intn(len(b)-at+1); r.Intn(6) {
		case 0:
			b = slices.Delete(b, at, min(end, at+4))
		case 1:
			b = slices.Insert(b, at, b[at:end]...)
		case 2:
			b = slices.Insert(b, at, byte(r.Intn(256)))
		case 3:
			b = append(b[:at:at], other[min(at, len(other)):]...)
		case 4:
			for range min(1, len(b)) {
				b[r.Intn(len(b))] = []byte{0, 1, 2, 4, 6, 8, 10, 12, 0x80}[r.Intn(9)]
			}
		case 5:
			for range min(1, len(b)) {
				b[r.Intn(len(b))] += byte(2 * (r.Intn(3) - 1))
			}
		}
	}
	return b
}

// TestCodeComesBack: over very many modules, code that was spoilt, and bytes that were; what came back does the same.
func TestCodeComesBack(t *testing.T) {
	w := &lively{r: rand.New(rand.NewSource(111))}
	var done, right, wrong, read, refused int
	last := impl.PutCode(vmCode())
	for i := range 3000 {
		m := w.module()
		if i%2 == 0 {
			m = checkedModule(w.r)
		}
		c, ok := impl.Compile(m)
		if !ok {
			continue
		}
		done++
		// Patterns that nothing names, most often right.
		for range w.r.Intn(3) {
			c.Pats = append(c.Pats, mixedP(w.r, 1+w.r.Intn(3)))
		}
		b := putsCode(t, plainModuleText(m), c, plainCanBePut(c))
		if back, ok := impl.GetCode(b); ok {
			f := m.Funs[w.r.Intn(len(m.Funs))]
			var args []impl.Term
			for range f.Params {
				args = append(args, w.arg())
			}
			x, code := impl.VmRun(c, f.Name, args, 500)
			y, ran := impl.VmRun(back, f.Name, args, 500)
			if code != ran || !alikeTerms(x, y) || impl.CodeText(c) != impl.CodeText(back) {
				t.Fatalf("%q: %s, what came back %s", plainModuleText(m), came(x, code), came(y, ran))
			}
		}
		for range 4 {
			spoilt := plainCopyCode(c)
			spoilCode(w.r, &spoilt)
			is := plainCanBePut(spoilt)
			putsCode(t, "spoilt code", spoilt, is)
			sameIs(t, "spoilt code", c, spoilt, plainSameCode(c, spoilt))
			if is {
				right++
			} else {
				wrong++
			}
		}
		for range 6 {
			if _, ok := getsCode(t, "spoilt bytes", shuffledBytes(w.r, plainBytes(c), last)); ok {
				read++
			} else {
				refused++
			}
		}
		last = plainBytes(c)
	}
	if done < 1500 || right < 500 || wrong < 2000 || read < 200 || refused < 5000 {
		t.Error("too few to tell anything:", done, right, wrong, read, refused)
	}
}

// oneFieldOff: the code with one field changed of a Fn, an Ins or a pattern, or with one of them more or less.
func oneFieldOff(c impl.Code) []impl.Code {
	var l []impl.Code
	add := func(change func(own *impl.Code)) {
		own := plainCopyCode(c)
		change(&own)
		l = append(l, own)
	}
	add(func(own *impl.Code) { own.Fns = append(own.Fns, impl.Fn{}) })
	add(func(own *impl.Code) { own.Pats = append(own.Pats, impl.Pat{}) })
	for i, f := range c.Fns {
		add(func(own *impl.Code) { own.Fns = own.Fns[:i] })
		add(func(own *impl.Code) { own.Fns = slices.Delete(own.Fns, i, i+1) })
		add(func(own *impl.Code) { own.Fns[i].Name += "x" })
		add(func(own *impl.Code) { own.Fns[i].Name = strings.ToUpper(own.Fns[i].Name) + "\x00" })
		add(func(own *impl.Code) { own.Fns[i].Args++ })
		add(func(own *impl.Code) { own.Fns[i].Slots-- })
		add(func(own *impl.Code) { own.Fns[i].Ins = append(own.Fns[i].Ins, impl.Ins{}) })
		for at := range f.Ins {
			add(func(own *impl.Code) { own.Fns[i].Ins = own.Fns[i].Ins[:at] })
			add(func(own *impl.Code) { own.Fns[i].Ins[at].Op++ })
			add(func(own *impl.Code) { own.Fns[i].Ins[at].N-- })
			add(func(own *impl.Code) { own.Fns[i].Ins[at].S += "x" })
			add(func(own *impl.Code) { own.Fns[i].Ins[at].To++ })
		}
	}
	for i := range c.Pats {
		add(func(own *impl.Code) { own.Pats = own.Pats[:i] })
		add(func(own *impl.Code) { own.Pats = slices.Delete(own.Pats, i, i+1) })
		for at := range placesP(&c.Pats[i]) {
			part := func(own *impl.Code) *impl.Pat { return placesP(&own.Pats[i])[at] }
			add(func(own *impl.Code) { part(own).K++ })
			add(func(own *impl.Code) { part(own).N-- })
			add(func(own *impl.Code) { part(own).N += math.MaxInt })
			add(func(own *impl.Code) { part(own).S += "x" })
			add(func(own *impl.Code) { part(own).E = append(part(own).E, impl.Pat{}) })
			if len(placesP(&c.Pats[i])[at].E) > 0 {
				add(func(own *impl.Code) { part(own).E = part(own).E[1:] })
				add(func(own *impl.Code) { part(own).E = nil })
			}
		}
	}
	return l
}

func TestSameCode(t *testing.T) {
	all := putCodes()
	// Not right, and held against each other all the same.
	all["wrong Fns"] = impl.Code{Fns: []impl.Fn{{}, {Name: "A B", Args: -1, Slots: math.MinInt, Ins: []impl.Ins{{}, {Op: 99, N: math.MaxInt, S: "x y", To: -7}}}, {Name: "A B"}}}
	all["wrong Pats"] = impl.Code{Pats: []impl.Pat{{}, {K: 99, N: math.MinInt, S: "?", E: []impl.Pat{{S: "within"}, tupleP(intP(-5)), {E: timesP(30, slotP(-9))}}}, nestedP(impl.XList, 12, atomP("deep"))}}
	for i, c := range wrongCodes() {
		if len(c.Pats) < 100 {
			all[fmt.Sprint("wrong code ", i)] = c
		}
	}
	for what, c := range all {
		sameIs(t, what+", itself", c, c, true)
		sameIs(t, what+", a copy", c, plainCopyCode(c), true)
		for i, other := range oneFieldOff(c) {
			if impl.SameCode(c, other) || impl.SameCode(other, c) || plainSameCode(c, other) {
				t.Errorf("%s: the same as with one thing changed, the %d-th", what, i)
			}
			sameIs(t, what+", both changed", other, plainCopyCode(other), true)
		}
		for which, other := range all {
			sameIs(t, what+" and "+which, c, other, plainSameCode(c, other))
		}
	}
	// In another order they are others.
	one, two := fnOf("f", 0, 0, "fail"), fnOf("g", 0, 0, "fail")
	sameIs(t, "Fns in another order", impl.Code{Fns: []impl.Fn{one, two}}, impl.Code{Fns: []impl.Fn{two, one}}, false)
	sameIs(t, "Pats in another order", impl.Code{Pats: []impl.Pat{intP(1), intP(2)}}, impl.Code{Pats: []impl.Pat{intP(2), intP(1)}}, false)
	sameIs(t, "E in another order", impl.Code{Pats: []impl.Pat{tupleP(intP(1), intP(2))}}, impl.Code{Pats: []impl.Pat{tupleP(intP(2), intP(1))}}, false)
	sameIs(t, "parts elsewhere", impl.Code{Pats: []impl.Pat{tupleP(tupleP(), tupleP(tupleP()))}}, impl.Code{Pats: []impl.Pat{tupleP(tupleP(tupleP()), tupleP())}}, false)
	sameIs(t, "a pattern within or behind", impl.Code{Pats: []impl.Pat{tupleP(tupleP())}}, impl.Code{Pats: []impl.Pat{tupleP(), tupleP()}}, false)
}

// TestSameCodeOfEmptyLists: nil and an empty list are one, right or not.
func TestSameCodeOfEmptyLists(t *testing.T) {
	room := make([]impl.Pat, 3)
	for _, x := range []struct{ a, b impl.Code }{
		{impl.Code{}, impl.Code{Fns: []impl.Fn{}}}, {impl.Code{}, impl.Code{Pats: []impl.Pat{}}}, {impl.Code{}, impl.Code{Fns: make([]impl.Fn, 0, 3), Pats: room[:0]}},
		{impl.Code{Fns: []impl.Fn{{Name: "f"}}}, impl.Code{Fns: []impl.Fn{{Name: "f", Ins: []impl.Ins{}}}}}, {impl.Code{Fns: []impl.Fn{{}}, Pats: []impl.Pat{{}}}, impl.Code{Fns: []impl.Fn{{Ins: make([]impl.Ins, 0, 9)}}, Pats: []impl.Pat{{E: room[:0]}}}},
		{impl.Code{Pats: []impl.Pat{tupleP()}}, impl.Code{Pats: []impl.Pat{{K: impl.XTuple, E: []impl.Pat{}}}}}, {impl.Code{Pats: []impl.Pat{listP(intP(1), tupleP())}}, impl.Code{Pats: []impl.Pat{listP(impl.Pat{K: impl.XInt, N: 1, E: []impl.Pat{}}, impl.Pat{K: impl.XTuple, E: room[:0]})}}},
	} {
		sameIs(t, "nil and an empty list", x.a, x.b, true)
		for _, wrong := range []impl.Code{{Fns: append(slices.Clone(x.b.Fns), impl.Fn{}), Pats: x.b.Pats}, {Fns: x.b.Fns, Pats: append(slices.Clone(x.b.Pats), impl.Pat{})}} {
			sameIs(t, "one more", x.a, wrong, false)
		}
	}
}

// TestCodeBytesLeaveArgumentsAlone: and what stands behind a list's length is neither read nor written.
func TestCodeBytesLeaveArgumentsAlone(t *testing.T) {
	build := func() ([]impl.Fn, []impl.Pat, []impl.Ins, []impl.Pat) {
		ins := append(asm("load 0; match 0 4; load 1; jump 5; fail; ret"), asm("fail; int 1")...)
		parts := []impl.Pat{slotP(1), slotP(-1), slotP(1), {K: 99}}
		fns := []impl.Fn{{Name: "f", Args: 1, Slots: 2, Ins: ins[:6]}, fnOf("g", 0, 0, "fail"), fnOf("h", 0, 0, "fail"), {}}
		pats := []impl.Pat{{K: impl.XTuple, E: parts[:2]}, {K: impl.XInt, N: 1, E: parts[:0]}, slotP(0), {K: 99}}
		return fns, pats, ins, parts
	}
	fns, pats, ins, parts := build()
	wantFns, wantPats, wantIns, wantParts := build()
	c := impl.Code{Fns: fns[:2], Pats: pats[:2]}
	b := putsCode(t, "with room behind", c, true)
	plain := impl.Code{Fns: []impl.Fn{fnOf("f", 1, 2, "load 0; match 0 4; load 1; jump 5; fail; ret"), fnOf("g", 0, 0, "fail")}, Pats: []impl.Pat{tupleP(slotP(1), slotP(-1)), intP(1)}}
	if !bytes.Equal(b, impl.PutCode(plain)) {
		t.Errorf("%x", b)
	}
	sameIs(t, "with room behind", c, plain, true)
	for _, more := range []impl.Code{{Fns: fns[:3], Pats: pats[:2]}, {Fns: fns[:2], Pats: pats[:3]}, {Fns: fns, Pats: pats}, {Fns: fns[:2], Pats: []impl.Pat{{K: impl.XTuple, E: parts[:3]}, intP(1)}}, {Fns: []impl.Fn{{Name: "f", Args: 1, Slots: 2, Ins: ins}, fns[1]}, Pats: pats[:2]}} {
		putsCode(t, "with what was behind", more, len(more.Fns) < 4 && len(more.Pats) < 4 && len(more.Fns[0].Ins) == 6 && len(more.Pats[0].E) == 2)
		sameIs(t, "with what was behind", c, more, false)
	}
	ins[3].To = 6
	putsCode(t, "an Ins behind the length", c, false)
	ins[3].To = 5
	if !slices.EqualFunc(fns, wantFns, sameFn) || !slices.EqualFunc(pats, wantPats, samePat) || !slices.Equal(ins, wantIns) || !slices.EqualFunc(parts, wantParts, samePat) {
		t.Error("a call wrote into its argument, or behind it")
	}
	// What would make the bytes whole stands behind them.
	for size := range b {
		if _, ok := impl.GetCode(b[:size]); ok {
			t.Errorf("%d bytes, and the others behind", size)
		}
	}
	room := append(bytes.Clone(b), b...)
	if got, ok := impl.GetCode(room[:len(b)]); !ok || !plainSameCode(got, c) || !bytes.Equal(room, slices.Concat(b, b)) {
		t.Error("bytes with others behind:", ok)
	}
}

// TestCodeBytesShareNoMemory: lists that are one in the argument are apart in what comes back, and all memory is its own.
func TestCodeBytesShareNoMemory(t *testing.T) {
	both := []impl.Pat{slotP(0), atomP("b")}
	inner := impl.Pat{K: impl.XList, E: both}
	pats := []impl.Pat{{K: impl.XTuple, E: both}, inner, tupleP(inner, tupleP(atomP("b"))), inner}
	ins := asm("load 0; match 0 3; fail; ret")
	c := impl.Code{Fns: []impl.Fn{{Name: "f", Slots: 1, Ins: ins}, {Name: "g", Slots: 1, Ins: ins}}, Pats: pats}
	b := putsCode(t, "shared lists", c, true)
	kept := bytes.Clone(b)
	want, back := plainCopyCode(c), impl.Code{}
	for range 2 {
		again, ok := impl.GetCode(b)
		if !ok || meeting(codeListSpans(again), append([]span{}, codeListSpans(back)...)) {
			t.Fatal("two calls share memory:", ok)
		}
		back = again
	}
	// What is answered may be written into, up to its room, and nothing else changes.
	for i := range back.Pats {
		for k := i; k < len(back.Pats); k++ {
			if !samePat(back.Pats[k], want.Pats[k]) {
				t.Error("pattern", k, "is not apart")
			}
		}
		room := back.Pats[i].E[:cap(back.Pats[i].E)]
		for k := range room {
			room[k] = intP(77)
		}
	}
	clear(back.Fns[0].Ins[:cap(back.Fns[0].Ins)])
	if !sameFn(back.Fns[1], want.Fns[1]) || !plainSameCode(c, want) || !bytes.Equal(b, kept) {
		t.Error("what was written into an answer is elsewhere, too")
	}
	again := impl.PutCode(c)
	overwrite(b)
	if !bytes.Equal(again, kept) || !bytes.Equal(impl.PutCode(c), kept) || !plainSameCode(c, want) {
		t.Error("bytes of two calls, or of the code, are not apart")
	}
	// Code over bytes that change.
	whole := impl.PutCode(impl.Code{Fns: []impl.Fn{fnOf("name", 0, 0, "atom atom; call other 0; op +; ret"), fnOf("other", 0, 0, "atom other; ret")}, Pats: []impl.Pat{atomP("within"), tupleP(atomP("deep"), intP(5))}})
	back, ok := impl.GetCode(whole)
	overwrite(whole)
	if got := impl.CodeText(back); !ok || got != "name/0 0\n0 atom atom\n1 call other 0\n2 op +\n3 ret\nother/0 0\n0 atom other\n1 ret\n" || patTexts(back.Pats) != "within ; {deep, 5}" {
		t.Errorf("GetCode: %v, %q, %s", ok, got, patTexts(back.Pats))
	}
	// Texts over bytes that change.
	text := []byte("nameatom")
	name, atom := unsafe.String(&text[0], 4), unsafe.String(&text[4], 4)
	b = impl.PutCode(impl.Code{Fns: []impl.Fn{{Name: name, Ins: []impl.Ins{{Op: impl.InAtom, S: atom}, {Op: impl.InRet}}}}, Pats: []impl.Pat{atomP(atom)}})
	if string(text) != "nameatom" {
		t.Error("a text was written into")
	}
	overwrite(text)
	if string(b) != "\x02\x08name\x00\x00\x04\x04\x00\x08atom\x00\x18\x00\x00\x00\x02\x04\x00\x08atom\x00" {
		t.Errorf("PutCode: %q", b)
	}
}

// endlessPats: patterns that are very deep, share very often, or have no end; each call makes new ones.
func endlessPats(deep int) []impl.Pat {
	ring := []impl.Pat{intP(1), {K: impl.XTuple}}
	ring[1].E = ring
	alone := []impl.Pat{{K: impl.XList}}
	alone[0].E = alone
	doubled := intP(1)
	for range 3000 {
		doubled = tupleP(doubled, doubled)
	}
	often := make([]impl.Pat, deep)
	for i := range often {
		often[i] = impl.Pat{K: impl.XTuple, E: often}
	}
	wide := tupleP(timesP(20, tupleP(timesP(20, tupleP(timesP(20, slotP(-1))...))...))...)
	long := strings.Repeat("a", 10*deep)
	return []impl.Pat{ring[1], alone[0], doubled, often[0], wide, nestedP(impl.XList, deep, intP(1)), nestedP(impl.XCons, 10*deep, slotP(-1)), tupleP(timesP(deep, slotP(-1))...), atomP(long), {K: impl.XVar, S: long}}
}

// TestCodeBytesEndOnAnyCode: arguments that are very deep, share very often, or have no end.
func TestCodeBytesEndOnAnyCode(t *testing.T) {
	const deep = 100000
	fns := []impl.Fn{fnOf("f", 0, 0, "int 1; match 1 3; fail; ret")}
	others := endlessPats(100000)
	for i, p := range endlessPats(100000) {
		for _, pats := range [][]impl.Pat{{p}, {slotP(0), slotP(-1), p}, {p, slotP(-1)}, {slotP(-1), p}, timesP(2000, p), timesP(2001, p), {intP(1), tupleP(slotP(-1), p)}} {
			for _, c := range []impl.Code{{Pats: pats}, {Fns: fns, Pats: pats}} {
				if b := impl.PutCode(c); len(b) > 0 {
					t.Error("pattern", i, "has bytes:", len(b))
				}
			}
		}
		c, d := impl.Code{Fns: fns, Pats: []impl.Pat{p, intP(1), tupleP(p, p)}}, impl.Code{Fns: fns, Pats: []impl.Pat{others[i], intP(1), tupleP(others[i], p)}}
		if !impl.SameCode(c, d) {
			t.Error("pattern", i, "is not the same")
		}
		d.Pats[1].N++
		if impl.SameCode(c, d) || impl.SameCode(d, c) {
			t.Error("pattern", i, "is the same as another")
		}
		for k, q := range others {
			if i != k && impl.SameCode(impl.Code{Pats: []impl.Pat{p}}, impl.Code{Pats: []impl.Pat{q}}) {
				t.Error("patterns", i, "and", k, "are the same")
			}
		}
	}
	long := strings.Repeat("a", 10*deep)
	for i, c := range []impl.Code{{Pats: make([]impl.Pat, deep)}, {Fns: make([]impl.Fn, deep)}, {Fns: []impl.Fn{{Name: "f", Ins: make([]impl.Ins, 10*deep)}}}, {Fns: []impl.Fn{{Name: long, Ins: asm("fail")}}}, {Fns: []impl.Fn{{Name: "f", Ins: []impl.Ins{{Op: impl.InCall, S: long}, {Op: impl.InRet}}}}}, {Fns: slices.Repeat([]impl.Fn{{Name: "f", Ins: make([]impl.Ins, deep)}}, deep)}} {
		if b := impl.PutCode(c); len(b) > 0 {
			t.Error("code", i, "has bytes:", len(b))
		}
		other := impl.Code{Fns: slices.Clone(c.Fns), Pats: slices.Clone(c.Pats)}
		if len(c.Fns) > 0 {
			own := slices.Clone(c.Fns[0].Ins)
			for k := range other.Fns {
				other.Fns[k].Ins = own
			}
		}
		if !impl.SameCode(c, other) {
			t.Error("code", i, "is not the same")
		}
		if many := len(other.Fns); many > 0 {
			last := slices.Clone(other.Fns[many-1].Ins)
			other.Fns[many-1].Ins = append(last[:max(0, len(last)-1)], impl.Ins{To: 1})
			if impl.SameCode(c, other) {
				t.Error("code", i, "is the same as another")
			}
		}
	}
}

// TestSameCodeOfSharedLists: the very last of what is shared very often is another one.
func TestSameCodeOfSharedLists(t *testing.T) {
	doubledP := func(times int, p impl.Pat) impl.Pat {
		for range times {
			p = tupleP(p, p)
		}
		return p
	}
	is := func(what string, a impl.Pat, b impl.Pat, want bool) {
		t.Helper()
		one, other := impl.Code{Pats: []impl.Pat{intP(1), a}}, impl.Code{Pats: []impl.Pat{intP(1), b}}
		if impl.SameCode(one, other) != want || impl.SameCode(other, one) != want {
			t.Error(what+": same, not", want)
		}
	}
	for _, times := range []int{1, 3, 30, 64, 500, 2000} {
		a, b := tupleP(slotP(1), slotP(2)), tupleP(slotP(1), slotP(3))
		is("doubled", doubledP(times, a), doubledP(times, a), true)
		is("doubled, another within", doubledP(times, a), doubledP(times, b), false)
		is("doubled once more", doubledP(times, a), doubledP(times+1, a), false)
		x, y := doubledP(times, a), doubledP(times, b)
		is("beside one that is the same", listP(x, listP(x, x)), listP(x, listP(x, y)), false)
		is("beside the other", listP(x, y, x), listP(x, y, y), false)
	}
	// Rounds: what comes of them is alike, however many lists they have.
	round := func(nums ...int) impl.Pat {
		lists := make([][]impl.Pat, len(nums))
		for i := range lists {
			lists[i] = make([]impl.Pat, 2)
		}
		for i, n := range nums {
			lists[i][0], lists[i][1] = intP(n), impl.Pat{K: impl.XTuple, E: lists[(i+1)%len(nums)]}
		}
		return lists[0][1]
	}
	many := slices.Repeat([]int{4}, 1000)
	for _, x := range []struct {
		a, b impl.Pat
		want bool
	}{
		{round(1), round(1), true}, {round(1), round(1, 1), true}, {round(1, 1, 1), round(1, 1), true}, {round(1, 2), round(1, 2, 1, 2), true}, {round(4), round(many...), true},
		{round(1), round(2), false}, {round(1, 2), round(2, 1), false}, {round(1, 2), round(1, 2, 1), false}, {round(4), round(append(many, 5)...), false}, {round(4), nestedP(impl.XTuple, 5, intP(4)), false},
	} {
		is("rounds", x.a, x.b, x.want)
	}
	// Pieces of one list are others where they are shorter.
	row := timesP(700, intP(1))
	var pieces, apart []impl.Pat
	for size := range 700 {
		pieces, apart = append(pieces, listP(row[:size]...)), append(apart, listP(timesP(size, intP(1))...))
	}
	is("pieces", tupleP(pieces...), tupleP(apart...), true)
	apart[699] = listP(timesP(698, intP(1))...)
	is("a shorter piece", tupleP(pieces...), tupleP(apart...), false)
	// Very many lists of Ins that are one, but for the last.
	ins := slices.Repeat(asm("int 1"), 1000)
	a := impl.Code{Fns: slices.Repeat([]impl.Fn{{Name: "f", Ins: ins}}, 1000)}
	b := impl.Code{Fns: slices.Repeat([]impl.Fn{{Name: "f", Ins: slices.Clone(ins)}}, 1000)}
	sameIs(t, "lists of Ins", a, b, true)
	for _, at := range []int{0, 299, 300, 301, 500, 999} {
		off := impl.Code{Fns: slices.Clone(b.Fns)}
		off.Fns[at].Ins = slices.Clone(ins)
		off.Fns[at].Ins[999].N = 2
		sameIs(t, "a list of Ins", a, off, false)
		off.Fns[at].Ins = ins[:999]
		sameIs(t, "a shorter list of Ins", a, off, false)
	}
	a.Fns[998].Ins, a.Fns[999].Ins = slices.Clone(ins), ins[:1]
	b.Fns[998].Ins, b.Fns[999].Ins = ins, ins[999:]
	sameIs(t, "lists of Ins that are elsewhere", a, b, true)
}

// TestGetCodeEndsOnAnyBytes: very many bytes, that tell of what is very deep or very great.
func TestGetCodeEndsOnAnyBytes(t *testing.T) {
	const many = 5000000
	most := string(binary.AppendVarint(nil, impl.MaxInt))
	fn, all := "\x02\x02f\x00\x00", "\x00"+most
	tuple := "\x08\x00\x00"
	for what, s := range map[string]string{
		"noughts":            strings.Repeat("\x00", many),
		"ones":               strings.Repeat("\x01", many),
		"twos":               strings.Repeat("\x02", many),
		"open":               strings.Repeat("\x80", many),
		"most":               strings.Repeat(most, many/6),
		"Fns of nothing":     most + strings.Repeat("\x00", many),
		"Ins of nothing":     fn + most + strings.Repeat("\x00", many),
		"Pats of nothing":    all + strings.Repeat("\x00", many),
		"right Fns":          most + strings.Repeat("\x02f\x00\x00\x02\x16\x00\x00\x00", many/9) + "\x00",
		"right Ins":          fn + most + strings.Repeat("\x08\x00\x00\x00\x16\x00\x00\x00", many/8) + "\x00",
		"right Pats":         all + strings.Repeat("\x02\x02\x00\x00", many/4),
		"right parts":        "\x00\x02" + tuple + most + strings.Repeat("\x02\x02\x00\x00", many/4),
		"deep":               "\x00\x02" + strings.Repeat(tuple+"\x02", many/4) + "\x02\x02\x00\x00",
		"deep and not whole": "\x00\x02" + strings.Repeat(tuple+"\x02", many/4),
		"deep and wide":      "\x00\x02" + strings.Repeat(tuple+"\x28", many/4),
		"great and wide":     "\x00\x02" + tuple + "\x28" + strings.Repeat(tuple+"\x28"+strings.Repeat(tuple+"\x28"+strings.Repeat("\x02\x02\x00\x00", 20), 20), 20),
		"a Name":             string(impl.PutText([]byte{2}, strings.Repeat("a", many))) + "\x00\x00\x02\x16\x00\x00\x00\x00",
		"an S":               fn + "\x04" + string(impl.PutText([]byte("\x04\x00"), strings.Repeat("a", many))) + "\x00\x18\x00\x00\x00\x00",
		"an S of a pattern":  "\x00\x02" + string(impl.PutText([]byte("\x04\x00"), strings.Repeat("a", many))) + "\x00",
	} {
		if c, ok := impl.GetCode([]byte(s)); ok || len(c.Fns) > 0 || len(c.Pats) > 0 {
			t.Error(what, "are code")
		}
		if c, ok := impl.GetCode([]byte(s[:len(s)/2])); ok || len(c.Fns) > 0 || len(c.Pats) > 0 {
			t.Error(what, "are code, cut")
		}
	}
}

// TestCodeBytesOfMostWork: as many Fns, Ins and patterns as there may be, the longest texts and the greatest numbers.
func TestCodeBytesOfMostWork(t *testing.T) {
	p := manySlots(280)
	p.E = append(p.E, atomP(twentySmall), intP(impl.MaxInt), slotP(-1), slotP(399), slotP(398))
	c := impl.Code{Pats: timesP(2000, p)}
	for i := range 12 {
		f := impl.Fn{Name: twentySmall[:18] + fmt.Sprintf("%02d", i), Args: 4, Slots: 400, Ins: asm("int 1000000000000")}
		for len(f.Ins) < 1499 {
			f.Ins = append(f.Ins, impl.Ins{Op: impl.InAtom, S: twentySmall}, impl.Ins{Op: impl.InOp, S: "=="})
		}
		f.Ins = append(f.Ins, impl.Ins{Op: impl.InRet})
		f.Ins[1] = impl.Ins{Op: impl.InMatch, N: 1999 - i, To: 3}
		f.Ins[2] = impl.Ins{Op: impl.InFail}
		c.Fns = append(c.Fns, f)
	}
	if len(c.Fns[11].Ins) != 1500 || !impl.CodeOk(c) {
		t.Fatal("not right:", len(c.Fns[11].Ins))
	}
	b := impl.PutCode(c)
	if !bytes.Equal(b, plainBytes(c)) {
		t.Error("other bytes:", len(b))
	}
	back, ok := impl.GetCode(b)
	if !ok || !impl.SameCode(back, c) || !plainSameCode(back, c) {
		t.Error("does not come back:", ok)
	}
	back.Pats[1999].E[19-1].N--
	if impl.SameCode(back, c) {
		t.Error("the same with another last slot")
	}
	for _, wrong := range [][]byte{b[:len(b)-1], append(b[:len(b):len(b)], 0), append(bytes.Clone(b[:len(b)-4]), 6, 0, 0, 0)} {
		if _, ok := impl.GetCode(wrong); ok {
			t.Error("wrong at its end")
		}
	}
	p.E = append(p.E, intP(1))
	c.Pats[0] = p
	if b := impl.PutCode(c); len(b) > 0 {
		t.Error("301 in all, named by none:", len(b))
	}
	if _, ok := impl.GetCode(plainBytes(c)); ok {
		t.Error("301 in all, named by none, read")
	}
}
