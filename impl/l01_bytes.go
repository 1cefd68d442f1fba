package impl

const MaxInt = 1000000000000

// maxGroups: 2 MaxInt is below 2^41, so six groups of seven bits hold every number.
const maxGroups = 6

func PutNum(b []byte, n int) []byte { return appendNums(ownBytes(b), n) }

func GetNum(b []byte, at int) (int, int, bool) {
	code, next, ok := readGroups(b, at)
	if !ok || code > 2*MaxInt {
		return 0, 0, false
	}
	return codedNum(code), next, true
}

func PutText(b []byte, s string) []byte { return appendTexts(ownBytes(b), s) }

func GetText(b []byte, at int) (string, int, bool) {
	size, from, ok := GetNum(b, at)
	if !ok || size < 0 || size > len(b)-from {
		return "", 0, false
	}
	end := from + size
	return string(b[from:end]), end, true
}

// ownBytes: appending to what a caller holds could write into the room behind it.
func ownBytes(b []byte) []byte {
	own := make([]byte, len(b))
	copy(own, b)
	return own
}

// appendNums goes on in place, for bytes that no caller holds.
func appendNums(own []byte, nums ...int) []byte {
	for _, n := range nums {
		code := numCode(n)
		for code > 127 {
			own = append(own, byte(code%128+128))
			code /= 128
		}
		own = append(own, byte(code))
	}
	return own
}

// appendTexts goes on in place, for bytes that no caller holds.
func appendTexts(own []byte, texts ...string) []byte {
	for _, s := range texts {
		own = appendNums(own, len(s))
		own = append(own, s...)
	}
	return own
}

// numCode cuts n to MaxInt ahead of doubling it, which could wrap round.
func numCode(n int) int {
	n = max(-MaxInt, min(n, MaxInt))
	if n < 0 {
		return -2*n - 1
	}
	return 2 * n
}

func codedNum(code int) int {
	if code%2 == 1 {
		return -(code + 1) / 2
	}
	return code / 2
}

// readGroups refuses a last group of 0 behind others, so that a number has one form alone.
func readGroups(b []byte, at int) (int, int, bool) {
	if at < 0 || at >= len(b) {
		return 0, 0, false
	}
	code := 0
	end := min(len(b), at+maxGroups)
	for i := at; i < end; i++ {
		group := int(b[i] % 128)
		code += group << (7 * (i - at))
		if b[i] > 127 {
			continue
		}
		if group == 0 && i > at {
			return 0, 0, false
		}
		return code, i + 1, true
	}
	return 0, 0, false
}

// reader goes through bytes from the front; once something is not there, it is bad, and all it reads is zero.
type reader struct {
	b   []byte
	at  int
	bad bool
}

func (r *reader) num() int {
	n, next, ok := GetNum(r.b, r.at)
	if r.bad || !ok {
		r.bad = true
		return 0
	}
	r.at = next
	return n
}

func (r *reader) text() string {
	s, next, ok := GetText(r.b, r.at)
	if r.bad || !ok {
		r.bad = true
		return ""
	}
	r.at = next
	return s
}
