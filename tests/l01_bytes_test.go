package tests

import (
	"bytes"
	"math"
	"strings"
	"testing"

	"loop.example/g00236/impl"
)

// numForms: the bytes are worked out apart from the program, so that a fault in both directions at once is seen.
var numForms = []struct {
	n    int
	form string
}{
	{0, "\x00"},
	{-1, "\x01"},
	{1, "\x02"},
	{-2, "\x03"},
	{63, "\x7e"},
	{-64, "\x7f"},
	{64, "\x80\x01"},
	{-65, "\x81\x01"},
	{150, "\xac\x02"},
	{8191, "\xfe\x7f"},
	{-8192, "\xff\x7f"},
	{8192, "\x80\x80\x01"},
	{-8193, "\x81\x80\x01"},
	{1 << 34, "\x80\x80\x80\x80\x80\x01"},
	{1<<34 - 1, "\xfe\xff\xff\xff\x7f"},
	{impl.MaxInt - 1, "\xfe\xbf\xa8\xca\x9a\x3a"},
	{1 - impl.MaxInt, "\xfd\xbf\xa8\xca\x9a\x3a"},
	{impl.MaxInt, "\x80\xc0\xa8\xca\x9a\x3a"},
	{-impl.MaxInt, "\xff\xbf\xa8\xca\x9a\x3a"},
}

// edgeNums: each power of two and what lies beside it, either way, so that every count of groups is met on both sides.
func edgeNums() []int {
	var nums []int
	for shift := range 40 {
		for beside := -2; beside <= 2; beside++ {
			n := 1<<shift + beside
			if n <= impl.MaxInt {
				nums = append(nums, n, -n)
			}
		}
	}
	return append(nums, impl.MaxInt-1, impl.MaxInt, 1-impl.MaxInt, -impl.MaxInt)
}

// wrongPlaces: places at which no byte of a list of this size stands.
func wrongPlaces(size int) []int {
	return []int{-1, -2, -size - 1, math.MinInt, size, size + 1, size + 100, math.MaxInt - 5, math.MaxInt}
}

func refusesNum(t *testing.T, b []byte, at int) {
	t.Helper()
	if n, next, ok := impl.GetNum(b, at); n != 0 || next != 0 || ok {
		t.Errorf("GetNum of %x at %d: %d, %d, %v, not 0, 0, false", b, at, n, next, ok)
	}
}

func refusesText(t *testing.T, b []byte, at int) {
	t.Helper()
	if s, next, ok := impl.GetText(b, at); s != "" || next != 0 || ok {
		t.Errorf("GetText of %x at %d: %q, %d, %v, not nothing, 0, false", b, at, s, next, ok)
	}
}

func TestPutNumForms(t *testing.T) {
	for _, x := range numForms {
		if b := impl.PutNum(nil, x.n); string(b) != x.form {
			t.Errorf("%d: %x, not %x", x.n, b, x.form)
		}
		if b := impl.PutNum([]byte("\x80ab"), x.n); string(b) != "\x80ab"+x.form {
			t.Errorf("%d behind others: %x", x.n, b)
		}
	}
}

func TestPutNumBeyondCountsAsMost(t *testing.T) {
	most, least := impl.PutNum(nil, impl.MaxInt), impl.PutNum(nil, -impl.MaxInt)
	for _, n := range []int{impl.MaxInt + 1, impl.MaxInt + 2, 2 * impl.MaxInt, 1 << 42, 1 << 62, math.MaxInt - 1, math.MaxInt} {
		if b := impl.PutNum(nil, n); !bytes.Equal(b, most) {
			t.Errorf("%d: %x", n, b)
		}
		if b := impl.PutNum(nil, -n); !bytes.Equal(b, least) {
			t.Errorf("%d: %x", -n, b)
		}
	}
	if b := impl.PutNum(nil, math.MinInt); !bytes.Equal(b, least) {
		t.Errorf("the least int: %x", b)
	}
}

func TestGetNumForms(t *testing.T) {
	for _, x := range numForms {
		if n, next, ok := impl.GetNum([]byte(x.form), 0); n != x.n || next != len(x.form) || !ok {
			t.Errorf("%x: %d, %d, %v, not %d", x.form, n, next, ok, x.n)
		}
	}
}

func TestNumsComeBack(t *testing.T) {
	var row []byte
	var places []int
	nums := edgeNums()
	for _, n := range nums {
		places = append(places, len(row))
		row = impl.PutNum(row, n)
	}
	places = append(places, len(row))
	for i, n := range nums {
		if got, next, ok := impl.GetNum(row, places[i]); got != n || next != places[i+1] || !ok {
			t.Errorf("%d at %d: %d, %d, %v", n, places[i], got, next, ok)
		}
		if size := places[i+1] - places[i]; size < 1 || size > 6 {
			t.Errorf("%d takes %d bytes", n, size)
		}
	}
}

func TestGetNumWrongPlace(t *testing.T) {
	for _, b := range [][]byte{nil, {}, {2}, {2, 4, 6}, []byte("\x80\x80\x80\x80\x80\x01")} {
		for _, at := range wrongPlaces(len(b)) {
			refusesNum(t, b, at)
		}
	}
}

func TestGetNumNotWhole(t *testing.T) {
	for _, n := range edgeNums() {
		whole := impl.PutNum([]byte{5}, n)
		for size := 1; size < len(whole); size++ {
			refusesNum(t, whole[:size], 1)
			refusesNum(t, bytes.Clone(whole[:size]), 1)
		}
	}
}

func TestGetNumMostBytes(t *testing.T) {
	if n, next, ok := impl.GetNum([]byte("\x80\x80\x80\x80\x80\x01\x09"), 0); n != 1<<34 || next != 6 || !ok {
		t.Error("six bytes", n, next, ok)
	}
	for _, s := range []string{
		"\x80\x80\x80\x80\x80\x80",
		"\x80\x80\x80\x80\x80\x80\x00",
		"\x80\x80\x80\x80\x80\x80\x01",
		"\x82\x80\x80\x80\x80\x80\x80\x01",
		"\xff\xff\xff\xff\xff\xff\xff\xff\xff\x01",
		strings.Repeat("\x80", 9) + "\x02",
		strings.Repeat("\xff", 40) + "\x01",
	} {
		refusesNum(t, []byte(s), 0)
	}
}

func TestGetNumLastGroupOfNought(t *testing.T) {
	for others := 1; others <= 7; others++ {
		for _, group := range []string{"\x80", "\x81", "\xff"} {
			refusesNum(t, []byte(strings.Repeat(group, others)+"\x00\x01"), 0)
		}
	}
	if n, next, ok := impl.GetNum([]byte{0, 0}, 0); n != 0 || next != 1 || !ok {
		t.Error("a group of 0 alone", n, next, ok)
	}
	if n, next, ok := impl.GetNum([]byte("\x80\x80\x01"), 0); n != 8192 || next != 3 || !ok {
		t.Error("groups of 0 ahead of the last", n, next, ok)
	}
}

func TestGetNumBeyondMost(t *testing.T) {
	for _, s := range []string{
		"\x81\xc0\xa8\xca\x9a\x3a", // -MaxInt less 1
		"\x82\xc0\xa8\xca\x9a\x3a", // MaxInt and 1
		"\x80\xc0\xa8\xca\x9a\x3b",
		"\xfe\xff\xff\xff\xff\x7f",
		"\xff\xff\xff\xff\xff\x7f",
	} {
		refusesNum(t, []byte(s), 0)
	}
}

// TestNumHasOneForm: what is read of any bytes is just what is put of it.
func TestNumHasOneForm(t *testing.T) {
	digits := []byte{0, 1, 2, 0x3a, 0x7f, 0x80, 0xff}
	for size := 0; size <= 7; size++ {
		for b := range rowsOf(digits, size) {
			n, next, ok := impl.GetNum(b, 0)
			if !ok {
				if n != 0 || next != 0 {
					t.Fatalf("%x: false beside %d, %d", b, n, next)
				}
				continue
			}
			if next < 1 || next > size || n > impl.MaxInt || n < -impl.MaxInt {
				t.Fatalf("%x: %d, %d", b, n, next)
			}
			if again := impl.PutNum(nil, n); !bytes.Equal(again, b[:next]) {
				t.Fatalf("%x: %d is put as %x", b[:next], n, again)
			}
		}
	}
}

// rowsOf: all rows of so many of the digits, in one list that is written anew each time.
func rowsOf(digits []byte, size int) func(func([]byte) bool) {
	return func(yield func([]byte) bool) {
		count := 1
		for range size {
			count *= len(digits)
		}
		row := make([]byte, size)
		for which := range count {
			for i := range row {
				row[i] = digits[which%len(digits)]
				which /= len(digits)
			}
			if !yield(row) {
				return
			}
		}
	}
}

// texts: empty, bytes that are no letters, and both sides of each size at which the number ahead grows.
func texts() []string {
	list := []string{"", "a", "ab", "\x00", "\x80\xff\xfe", "größer", "\n\t ", "\x04ab"}
	for _, size := range []int{63, 64, 65, 8191, 8192, 70000} {
		list = append(list, strings.Repeat("\xe9", size))
	}
	return list
}

func TestPutTextForms(t *testing.T) {
	for _, x := range []struct{ s, form string }{
		{"", "\x00"},
		{"a", "\x02a"},
		{"ab", "\x04ab"},
		{"ö", "\x04\xc3\xb6"},
		{"\xff\x00", "\x04\xff\x00"},
		{strings.Repeat("x", 64), "\x80\x01" + strings.Repeat("x", 64)},
	} {
		if b := impl.PutText(nil, x.s); string(b) != x.form {
			t.Errorf("%q: %x", x.s, b)
		}
		if b := impl.PutText([]byte{1, 0x80}, x.s); string(b) != "\x01\x80"+x.form {
			t.Errorf("%q behind others: %x", x.s, b)
		}
		if s, next, ok := impl.GetText([]byte(x.form), 0); s != x.s || next != len(x.form) || !ok {
			t.Errorf("%x: %q, %d, %v", x.form, s, next, ok)
		}
	}
}

func TestTextsComeBack(t *testing.T) {
	var row []byte
	for _, s := range texts() {
		row = impl.PutText(row, s)
	}
	at := 0
	for _, s := range texts() {
		got, next, ok := impl.GetText(row, at)
		if got != s || next <= at || !ok {
			t.Fatalf("at %d: %d bytes, not %d; %d, %v", at, len(got), len(s), next, ok)
		}
		at = next
	}
	if at != len(row) {
		t.Error("the last one ends at", at, "of", len(row))
	}
}

func TestNumsAndTextsStandTogether(t *testing.T) {
	b := impl.PutNum(impl.PutText(impl.PutNum(nil, -7), "seven"), 7)
	n, at, ok := impl.GetNum(b, 0)
	s, behind, also := impl.GetText(b, at)
	last, end, too := impl.GetNum(b, behind)
	if n != -7 || s != "seven" || last != 7 || end != len(b) || !ok || !also || !too {
		t.Error(n, s, last, end, ok, also, too)
	}
}

func TestGetTextWrong(t *testing.T) {
	for _, s := range []string{
		"",
		"\x02",
		"\x04a",
		"\x01ab",     // -1 bytes
		"\x03ab",     // -2 bytes
		"\x80",       // a size that is not whole
		"\x82\x00ab", // a size with a needless group
		"\x80\x01" + strings.Repeat("x", 63),
		"\x80\xc0\xa8\xca\x9a\x3aabc", // MaxInt bytes
		"\xff\xbf\xa8\xca\x9a\x3aabc", // -MaxInt bytes
		"\x82\xc0\xa8\xca\x9a\x3aabc", // a size beyond MaxInt
		"\x82\x80\x80\x80\x80\x80\x00ab",
	} {
		refusesText(t, []byte(s), 0)
		refusesText(t, []byte("\x02\x02"+s), 2)
	}
}

func TestGetTextWrongPlace(t *testing.T) {
	for _, b := range [][]byte{nil, {0}, []byte("\x04ab"), []byte("\x00\x00\x00")} {
		for _, at := range wrongPlaces(len(b)) {
			refusesText(t, b, at)
		}
	}
}

func TestGetTextNotWhole(t *testing.T) {
	for _, s := range []string{"a", "abc", strings.Repeat("y", 64), strings.Repeat("y", 8192)} {
		whole := impl.PutText(nil, s)
		for size := range len(whole) {
			refusesText(t, whole[:size], 0)
		}
	}
}

// TestSpareRoomIsNotRead: what would make the bytes whole stands behind the list's length.
func TestSpareRoomIsNotRead(t *testing.T) {
	room := []byte("\x80\x01")
	refusesNum(t, room[:1], 0)
	room = []byte{2}
	refusesNum(t, room[:0], 0)
	room = []byte("\x04ab")
	refusesText(t, room[:2], 0)
	refusesText(t, room[:1], 0)
	refusesText(t, room[:0], 0)
	room = []byte{7, 8, 9}
	if b := impl.PutNum(room[:1], 3); string(b) != "\x07\x06" {
		t.Errorf("%x", b)
	}
	if b := impl.PutText(room[:1], "z"); string(b) != "\x07\x02z" {
		t.Errorf("%x", b)
	}
}

// puts: both putting functions, asked alike; with nothing to write but one byte, and with more.
func puts() map[string]func([]byte) []byte {
	return map[string]func([]byte) []byte{
		"PutNum 0":      func(b []byte) []byte { return impl.PutNum(b, 0) },
		"PutNum MaxInt": func(b []byte) []byte { return impl.PutNum(b, impl.MaxInt) },
		"PutText empty": func(b []byte) []byte { return impl.PutText(b, "") },
		"PutText ab":    func(b []byte) []byte { return impl.PutText(b, "ab") },
	}
}

func TestPutsWriteNothingIntoArguments(t *testing.T) {
	for name, put := range puts() {
		for size := 0; size <= 20; size++ {
			room := bytes.Repeat([]byte{0xee}, 40)
			put(room[:size])
			if !bytes.Equal(room, bytes.Repeat([]byte{0xee}, 40)) {
				t.Errorf("%s behind %d bytes wrote into its argument's room: %x", name, size, room)
			}
		}
	}
}

func TestPutsAnswerNewMemory(t *testing.T) {
	for name, put := range puts() {
		for size := 0; size <= 20; size++ {
			room := bytes.Repeat([]byte{0xee}, 40)
			first, second := put(room[:size]), put(room[:size])
			kept := bytes.Clone(second)
			overwrite(first)
			if !bytes.Equal(room, bytes.Repeat([]byte{0xee}, 40)) {
				t.Errorf("%s behind %d bytes shares its argument's room", name, size)
			}
			overwrite(room)
			if !bytes.Equal(second, kept) {
				t.Errorf("%s behind %d bytes: its answer changes with others", name, size)
			}
		}
	}
}

// overwrite fills a list and the room behind it, which an answer must not share either.
func overwrite(b []byte) {
	b = b[:cap(b)]
	for i := range b {
		b[i] = 0x55
	}
}

func TestGetsLeaveArgumentsAlone(t *testing.T) {
	b := []byte("\x80\x01\x04ab\x00")
	kept := bytes.Clone(b)
	for at := -1; at <= len(b)+1; at++ {
		impl.GetNum(b, at)
		impl.GetText(b, at)
	}
	if !bytes.Equal(b, kept) {
		t.Errorf("%x is now %x", kept, b)
	}
	s, _, _ := impl.GetText(b, 2)
	overwrite(b)
	if s != "ab" {
		t.Errorf("the text changes with its bytes: %q", s)
	}
}
