package tests

import (
	"math"
	"math/rand"
	"regexp"
	"slices"
	"strconv"
	"strings"
	"testing"
	"unsafe"

	"loop.example/g00236/impl"
)

func intToken(n int) impl.Token { return impl.Token{K: impl.KInt, N: n} }

func atomToken(s string) impl.Token { return impl.Token{K: impl.KAtom, S: s} }

func varToken(s string) impl.Token { return impl.Token{K: impl.KVar, S: s} }

func markToken(s string) impl.Token { return impl.Token{K: impl.KMark, S: s} }

// allMarks: as the document names them, in its order.
func allMarks() []string {
	return strings.Fields("( ) { } [ ] , . ; | -> == < + - *")
}

const (
	twentySmall = "abcdefghijklmnopqrst"
	twentyMixed = "Abc_EFghij0LMNOPQ9__"
)

func lexes(t *testing.T, s string, want ...impl.Token) {
	t.Helper()
	if l, place := impl.Lex(s); place != -1 || !slices.Equal(l, want) {
		t.Errorf("%.60q: %v, %d, not %v", s, l, place, want)
	}
}

func stopsAt(t *testing.T, s string, want int) {
	t.Helper()
	if l, place := impl.Lex(s); place != want || len(l) != 0 {
		t.Errorf("%.60q: %d tokens, place %d, not none and %d", s, len(l), place, want)
	}
}

func TestLexNothing(t *testing.T) {
	for _, s := range []string{"", " ", "\t", "\n", "\r", " \t\n\r \r\n\t", "%", "%%", "% a", "%\n", "% a\n ", "\n% a\n\t%b\r%c", "%\x00\xff\xc3\xa9 ä ?!\"#$&'/:>@\\^`~", strings.Repeat("% =\n", 3000)} {
		lexes(t, s)
	}
}

func TestLexEachKind(t *testing.T) {
	for n, s := range map[int]string{0: "0", 1: "1", 9: "9", 10: "10", 90: "90", 100: "100", 123456789: "123456789", 999999999999: "999999999999", impl.MaxInt: "1000000000000"} {
		lexes(t, s, intToken(n))
	}
	for _, s := range []string{"a", "z", "ok", "case", "of", "end", "a_", "a0", "z9_", "a__1", twentySmall, "z" + strings.Repeat("_", 19)} {
		lexes(t, s, atomToken(s))
	}
	for _, s := range []string{"A", "Z", "_", "__", "_1", "_a", "_A", "Aa", "A1", "A_", "X_y9Z", "ABC", twentyMixed, strings.Repeat("_", 20), strings.Repeat("Z", 20)} {
		lexes(t, s, varToken(s))
	}
	for _, s := range allMarks() {
		lexes(t, s, markToken(s))
	}
}

// TestLexWhereOneEnds: what stands together without a blank.
func TestLexWhereOneEnds(t *testing.T) {
	a, one := atomToken("a"), intToken(1)
	minus, arrow, less, same := markToken("-"), markToken("->"), markToken("<"), markToken("==")
	lexes(t, "1a", one, a)
	lexes(t, "1A", one, varToken("A"))
	lexes(t, "1_", one, varToken("_"))
	lexes(t, "0x1", intToken(0), atomToken("x1"))
	lexes(t, "0_0", intToken(0), varToken("_0"))
	lexes(t, "a1B", atomToken("a1"), varToken("B"))
	lexes(t, "aA", a, varToken("A"))
	lexes(t, "a_A1b", atomToken("a_"), varToken("A1b"))
	lexes(t, "aAa", a, varToken("Aa"))
	lexes(t, "a1", atomToken("a1"))
	lexes(t, "A1a_B", varToken("A1a_B"))
	lexes(t, "_1a", varToken("_1a"))
	lexes(t, "-1", minus, one)
	lexes(t, "1.5", one, markToken("."), intToken(5))
	lexes(t, "1-1", one, minus, one)
	lexes(t, "->", arrow)
	lexes(t, "--", minus, minus)
	lexes(t, "-->", minus, arrow)
	lexes(t, "->->", arrow, arrow)
	lexes(t, "->-", arrow, minus)
	lexes(t, "-==", minus, same)
	lexes(t, "====", same, same)
	lexes(t, "==->", same, arrow)
	lexes(t, "<==", less, same)
	lexes(t, "<->", less, arrow)
	lexes(t, "<-", less, minus)
	lexes(t, "<<", less, less)
	lexes(t, "{}[](),.;|+*", markToken("{"), markToken("}"), markToken("["), markToken("]"), markToken("("), markToken(")"), markToken(","), markToken("."), markToken(";"), markToken("|"), markToken("+"), markToken("*"))
	lexes(t, twentySmall+"A", atomToken(twentySmall), varToken("A"))
	lexes(t, twentyMixed+"(", varToken(twentyMixed), markToken("("))
	lexes(t, "1000000000000a", intToken(impl.MaxInt), a)
	lexes(t, "a\tb\nc\rd e", a, atomToken("b"), atomToken("c"), atomToken("d"), atomToken("e"))
	lexes(t, "1 1\t1\n1\r1", one, one, one, one, one)
	lexes(t, "- ->", minus, arrow)
}

func TestLexRemarks(t *testing.T) {
	a, b := atomToken("a"), atomToken("b")
	lexes(t, "a%b", a)
	lexes(t, "a%b\nb", a, b)
	lexes(t, "a%b\rb", a)
	lexes(t, "%a\nb", b)
	lexes(t, "%a\n%b")
	lexes(t, "%\nb%", b)
	lexes(t, "a% % %\n b", a, b)
	lexes(t, "a%= 01 \xff\x00 é\nb", a, b)
	lexes(t, "-%\n1", markToken("-"), intToken(1))
	lexes(t, "1%\n1", intToken(1), intToken(1))
	lexes(t, "%"+strings.Repeat("=", 100000)+"\na", a)
	lexes(t, "%\xc3\na", a)
	lexes(t, "%\xe2\x82\na", a)
	stopsAt(t, "a%b\n=", 4)
	stopsAt(t, "%é\né", 4)
	stopsAt(t, "-%\n>", 3)
}

func TestLexWrong(t *testing.T) {
	for s, place := range map[string]int{
		"=": 0, "a=": 1, "a = b": 2, "= =": 0, "===": 2, "=-": 0, "==a=": 3, ">": 0, "- >": 2, "->>": 2, "=>": 0,
		"01": 0, "00": 0, "000": 0, "a 01": 2, "1 00": 2, "(007)": 1, "01a": 0, "-01": 1, "0 01": 2, "00000000000000": 0,
		"1000000000001": 0, "10000000000000": 0, "9999999999999": 0, "a 1000000000001 b": 2, "18446744073709551616": 0, "18446744073709551617": 0, "1 9223372036854775808": 2,
		"\x00": 0, "a\x00": 1, "a \x0b": 2, "\x0c": 0, "a\x7f": 1, "\"a\"": 0, "'a'": 0, "a!": 1, "#": 0, "$": 0, "&": 0, "a/b": 1, "a:b": 1, "?": 0, "@": 0, "\\": 0, "^": 0, "`": 0, "~": 0,
		"\x80": 0, "\xff": 0, "a\xff": 1, "é": 0, "aé": 1, "é é": 0, "a\u00a0b": 1, "\ufeffa": 0, "\ufffd": 0, "Aé": 1, "1é": 1, "(é": 1, " \u2028": 1, "日本": 0, "a 日": 2, "\xc0\x8a": 0, "a\xc1\xa1": 1, "\uff41": 0, "\u0661": 0,
		"abcdefghijklmnopqrstu": 0, "x abcdefghijklmnopqrstu y": 2, "(abcdefghijklmnopqrstu": 1, twentyMixed + "x": 0, "a " + twentyMixed + "_": 2, strings.Repeat("_", 21): 0, "a" + strings.Repeat("B", 21): 1,
		strings.Repeat("a", 100000): 0, "A" + strings.Repeat("9", 100000): 0, "1" + strings.Repeat("0", 100000): 0, "x" + strings.Repeat(" ", 100000) + "=": 100001,
		"1 = 01": 2, "01 =": 0,
	} {
		stopsAt(t, s, place)
	}
}

// TestLexEachByte: alone, behind a blank, and right behind a mark.
func TestLexEachByte(t *testing.T) {
	for c := range 256 {
		s := string([]byte{byte(c)})
		var want []impl.Token
		switch {
		case strings.Contains(" \t\n\r%", s):
		case c >= '0' && c <= '9':
			want = []impl.Token{intToken(c - '0')}
		case c >= 'a' && c <= 'z':
			want = []impl.Token{atomToken(s)}
		case c >= 'A' && c <= 'Z', c == '_':
			want = []impl.Token{varToken(s)}
		case slices.Contains(allMarks(), s):
			want = []impl.Token{markToken(s)}
		default:
			stopsAt(t, s, 0)
			stopsAt(t, " \n"+s+" ", 2)
			stopsAt(t, "("+s, 1)
			stopsAt(t, "a"+s+"a", 1)
			continue
		}
		lexes(t, s, want...)
		lexes(t, " \n"+s, want...)
		lexes(t, "("+s, append([]impl.Token{markToken("(")}, want...)...)
	}
}

var tokenForms = regexp.MustCompile(`^(?:[ \t\n\r]|%[^\n]*|([0-9]+)|([a-z][a-z0-9_]*)|([A-Z_][A-Za-z0-9_]*)|(->|==|[(){}\[\],.;|<+*-]))`)

// lexByForms: the same by an expression of the library, as another witness.
func lexByForms(s string) ([]impl.Token, int) {
	var l []impl.Token
	for at := 0; at < len(s); {
		m := tokenForms.FindStringSubmatch(s[at:])
		if m == nil {
			return nil, at
		}
		switch {
		case m[1] != "":
			n, err := strconv.Atoi(m[1])
			if err != nil || strconv.Itoa(n) != m[1] || n > impl.MaxInt {
				return nil, at
			}
			l = append(l, intToken(n))
		case len(m[2]) > 20 || len(m[3]) > 20:
			return nil, at
		case m[2] != "":
			l = append(l, atomToken(m[2]))
		case m[3] != "":
			l = append(l, varToken(m[3]))
		case m[4] != "":
			l = append(l, markToken(m[4]))
		}
		at += len(m[0])
	}
	return l, -1
}

func TestLexByAnotherWitness(t *testing.T) {
	good := 0
	ask := func(s string) {
		l, place := impl.Lex(s)
		want, wantPlace := lexByForms(s)
		if place != wantPlace || !slices.Equal(l, want) {
			t.Fatalf("%q: %v, %d, not %v, %d", s, l, place, want, wantPlace)
		}
		if place < 0 {
			good++
		}
	}
	for size := range 6 {
		for b := range rowsOf([]byte("01aB_->=%\n \xc3"), size) {
			ask(string(b))
		}
	}
	r := rand.New(rand.NewSource(3))
	const alphabet = "0019azkAZQ__(){}[],.;|->==<+-* \t\n\r%"
	for range 20000 {
		b := make([]byte, r.Intn(40))
		for i := range b {
			b[i] = alphabet[r.Intn(len(alphabet))]
		}
		ask(string(b))
	}
	if good < 10000 {
		t.Error("only", good, "are good")
	}
}

func TestLexMaxTokens(t *testing.T) {
	if impl.MaxTokens != 2000 {
		t.Error(impl.MaxTokens)
	}
	for _, one := range []string{"a ", "(", "->", "7\n", "X%\n"} {
		full := strings.Repeat(one, 2000)
		for _, behind := range []string{"", " ", "\n\t\r ", "%", "% a b c\n", " %\n"} {
			if l, place := impl.Lex(full + behind); place != -1 || len(l) != 2000 {
				t.Errorf("2000 of %q and %q: %d, %d", one, behind, len(l), place)
			}
		}
		stopsAt(t, full+")", len(full))
		stopsAt(t, full+" \n)", len(full)+2)
		stopsAt(t, full+"%a\n) b", len(full)+3)
		stopsAt(t, full+") =", len(full))
		stopsAt(t, full+") 01", len(full))
		stopsAt(t, full+"=", len(full))
		stopsAt(t, full+full, len(full))
		stopsAt(t, strings.Repeat(one, 1999)+"=", len(one)*1999)
	}
}

func TestTokenOk(t *testing.T) {
	right := []impl.Token{intToken(0), intToken(1), intToken(impl.MaxInt), atomToken("a"), atomToken("a_9"), atomToken(twentySmall), atomToken("case"), varToken("_"), varToken("A"), varToken("_aB9"), varToken(twentyMixed)}
	for _, s := range allMarks() {
		right = append(right, markToken(s))
	}
	for _, x := range right {
		want := x.S
		if x.K == impl.KInt {
			want = strconv.Itoa(x.N)
		}
		if s := impl.TokenText(x); !impl.TokenOk(x) || s != want {
			t.Errorf("%+v: %v, %q", x, impl.TokenOk(x), s)
		}
	}
}

func wrongTokens() []impl.Token {
	wrong := []impl.Token{
		{}, intToken(-1), intToken(impl.MaxInt + 1), intToken(math.MinInt), intToken(math.MaxInt), {K: impl.KInt, N: 1, S: "1"}, {K: impl.KInt, S: "a"}, {K: impl.KInt, S: "\x00"},
		atomToken(""), atomToken("A"), atomToken("_"), atomToken("_a"), atomToken("1"), atomToken("1a"), atomToken("aB"), atomToken("a b"), atomToken(" a"), atomToken("a "), atomToken("a\n"), atomToken("é"), atomToken("aé"), atomToken("("), atomToken(twentySmall + "u"), {K: impl.KAtom, N: 1, S: "a"}, {K: impl.KAtom, N: -1, S: "a"},
		varToken(""), varToken("a"), varToken("aB"), varToken("1"), varToken("1A"), varToken("A B"), varToken("A "), varToken(" A"), varToken("É"), varToken("Aé"), varToken("A\xff"), varToken("A-"), varToken(twentyMixed + "_"), varToken(strings.Repeat("_", 21)), {K: impl.KVar, N: 1, S: "A"}, {K: impl.KVar, N: -7, S: "_"},
		markToken(""), markToken("="), markToken(">"), markToken("<="), markToken("==="), markToken("->>"), markToken("--"), markToken("- "), markToken(" -"), markToken("()"), markToken("(a"), markToken("%"), markToken(" "), markToken("\n"), markToken("a"), markToken("1"), markToken("_"), markToken(":"), markToken("/"), markToken("\xff"), {K: impl.KMark, N: 1, S: "("}, {K: impl.KMark, N: -1, S: "->"},
	}
	for _, k := range []int{-1, 0, 5, 6, 256 + impl.KInt, math.MinInt, math.MaxInt} {
		wrong = append(wrong, impl.Token{K: k}, impl.Token{K: k, N: 1}, impl.Token{K: k, S: "a"}, impl.Token{K: k, S: "A"}, impl.Token{K: k, S: "("})
	}
	return wrong
}

func TestWrongTokens(t *testing.T) {
	for _, x := range wrongTokens() {
		if impl.TokenOk(x) || impl.TokenText(x) != "" {
			t.Errorf("%+v is a token, of text %q", x, impl.TokenText(x))
		}
		if s := impl.JoinTokens([]impl.Token{x}); s != "" {
			t.Errorf("%+v alone is joined as %q", x, s)
		}
		if s := impl.JoinTokens([]impl.Token{atomToken("a"), x, intToken(3)}); s != "a  3" {
			t.Errorf("%+v among others is joined as %q", x, s)
		}
	}
}

func TestTokenNamesByByte(t *testing.T) {
	for c := range 256 {
		one := string([]byte{byte(c)})
		first := c >= 'A' && c <= 'Z' || c == '_'
		later := first || c >= 'a' && c <= 'z' || c >= '0' && c <= '9'
		if impl.TokenOk(varToken(one)) != first || impl.TokenOk(varToken("M"+one)) != later || impl.TokenOk(varToken("_"+one+"m")) != later {
			t.Errorf("byte %d in a name", c)
		}
		if impl.TokenOk(markToken(one)) != slices.Contains(allMarks(), one) || impl.TokenOk(markToken(one+">")) != (c == '-') || impl.TokenOk(markToken(one+"=")) != (c == '=') || impl.TokenOk(markToken("-"+one)) != (c == '>') {
			t.Errorf("byte %d in a mark", c)
		}
	}
}

func TestJoinTokens(t *testing.T) {
	for _, x := range []struct {
		l    []impl.Token
		want string
	}{
		{nil, ""},
		{[]impl.Token{}, ""},
		{[]impl.Token{atomToken("a")}, "a"},
		{[]impl.Token{intToken(0), intToken(0)}, "0 0"},
		{[]impl.Token{markToken("-"), markToken("->"), intToken(impl.MaxInt)}, "- -> 1000000000000"},
		{[]impl.Token{atomToken("f"), markToken("("), varToken("X"), markToken(")")}, "f ( X )"},
		{[]impl.Token{{}, {}}, " "},
		{[]impl.Token{{}, {}, atomToken("a"), {}}, "  a "},
	} {
		if s := impl.JoinTokens(x.l); s != x.want {
			t.Errorf("%v: %q, not %q", x.l, s, x.want)
		}
	}
	many := slices.Repeat([]impl.Token{markToken("(")}, 5000)
	if s := impl.JoinTokens(many); s != strings.Repeat("( ", 4999)+"(" {
		t.Error("5000 are joined to", len(s), "bytes")
	}
}

func randomToken(r *rand.Rand) impl.Token {
	switch r.Intn(4) {
	case 0:
		return intToken([]int{0, 1, 10, impl.MaxInt, impl.MaxInt - 1, r.Intn(1000000)}[r.Intn(6)])
	case 1:
		return atomToken([]string{"a", "z", "a1", "a_", "case", twentySmall}[r.Intn(6)])
	case 2:
		return varToken([]string{"_", "A", "Z", "_1", "Aa_9", twentyMixed}[r.Intn(6)])
	}
	return markToken(allMarks()[r.Intn(len(allMarks()))])
}

func TestTokensComeBack(t *testing.T) {
	r := rand.New(rand.NewSource(4))
	for i := range 400 {
		l := make([]impl.Token, r.Intn(60))
		if i == 0 {
			l = make([]impl.Token, 2000)
		}
		for i := range l {
			l[i] = randomToken(r)
		}
		lexes(t, impl.JoinTokens(l), l...)
		lexes(t, "%\n\t"+strings.ReplaceAll(impl.JoinTokens(l), " ", "\r\n")+" % end", l...)
	}
	for _, a := range append(allMarks(), "a", "A", "_", "1", "0") {
		for _, b := range append(allMarks(), "a", "A", "_", "1", "0") {
			first, _ := impl.Lex(a)
			second, _ := impl.Lex(b)
			lexes(t, impl.JoinTokens(append(first, second...)), first[0], second[0])
		}
	}
}

// TestLexedComesBack: what is read of any text is right, and comes back of its joined text.
func TestLexedComesBack(t *testing.T) {
	for size := range 6 {
		for b := range rowsOf([]byte("0a1Z->=% "), size) {
			l, place := impl.Lex(string(b))
			if place != -1 {
				continue
			}
			for _, x := range l {
				if !impl.TokenOk(x) {
					t.Fatalf("%q: %+v is no token", b, x)
				}
			}
			lexes(t, impl.JoinTokens(l), l...)
		}
	}
}

// TestTokensShareNoMemory: a text over bytes that change shows what an answer holds on to.
func TestTokensShareNoMemory(t *testing.T) {
	b := []byte("ab -> {Xy, 12}")
	s := unsafe.String(&b[0], len(b))
	l, _ := impl.Lex(s)
	other, _ := impl.Lex(s)
	want := []impl.Token{atomToken("ab"), markToken("->"), markToken("{"), varToken("Xy"), markToken(","), intToken(12), markToken("}")}
	joined := impl.JoinTokens(l)
	if string(b) != "ab -> {Xy, 12}" {
		t.Error("reading wrote into its text")
	}
	overwrite(b)
	if !slices.Equal(l, want) || joined != "ab -> { Xy , 12 }" {
		t.Error("tokens share memory with their text", l, joined)
	}
	for i := range l[:cap(l)] {
		l[:cap(l)][i] = impl.Token{K: 77}
	}
	if !slices.Equal(other, want) {
		t.Error("two answers share memory")
	}
}

func TestJoinLeavesArgumentsAlone(t *testing.T) {
	room := []impl.Token{atomToken("a"), {K: 9, S: "x"}, intToken(2), varToken("B"), markToken("(")}
	kept := slices.Clone(room)
	if s := impl.JoinTokens(room[:3]); s != "a  2" {
		t.Errorf("%q", s)
	}
	if !slices.Equal(room, kept) {
		t.Error("joining wrote into its argument, or behind it")
	}
}
