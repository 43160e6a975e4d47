package log

import (
	"bytes"
	"math"
	"reflect"
	"slices"
	"strconv"
	"strings"
	"testing"

	"rankandfile/api"
	"rankandfile/deed"
	"rankandfile/text"
)

const (
	more  = "reads a; writes a; load r0 a; const r1 1; add r0 r1; store r0 a"
	fiveC = "reads; writes c; const r0 5; store r0 c"
	dropB = "reads; writes b c; drop b; const r0 5; store r0 c"
	ifA   = "reads a; writes c; load r0 a; skip r0 1; store r0 c; const r3 -7"
	fails = "reads a b; writes a b; load r0 a; const r1 2; sub r0 r1; mul r1 r0; fail r0; store r0 a"
	none  = "reads; writes"
)

func texts() []string { return []string{more, fiveC, dropB, ifA, fails, none} }

func readAll(t *testing.T, texts ...string) []api.Deed {
	t.Helper()
	var l []api.Deed
	for _, s := range texts {
		d, errno := text.Parse(s)
		if errno != api.OK {
			t.Fatalf("%q is no deed: %d", s, errno)
		}
		l = append(l, d)
	}
	return l
}

// of answers the entry of that number, with the deeds of these texts.
func of(t *testing.T, number int, texts ...string) api.Entry {
	t.Helper()
	return api.Entry{Number: number, Deeds: readAll(t, texts...)}
}

func same(a, b api.Entry) bool {
	return a.Number == b.Number && slices.EqualFunc(a.Deeds, b.Deeds, deed.Same)
}

// longest is the text of a right deed of which none is longer.
func longest() string {
	return "reads aaaaaa bbbbbb cccccc dddddd eeeeee; writes vvvvvv wwwwww xxxxxx yyyyyy zzzzzz" +
		strings.Repeat("; const r3 -1073741824", api.MaxCode)
}

// rightOnes are entries of all numbers, and of none to MaxBatch deeds.
func rightOnes(t *testing.T) []api.Entry {
	t.Helper()
	l := []api.Entry{
		of(t, 0),
		of(t, api.MaxLog-1, texts()...),
		of(t, 0, slices.Repeat([]string{longest()}, api.MaxBatch)...),
		of(t, 3, slices.Repeat([]string{none}, api.MaxBatch)...),
	}
	for number := range api.MaxLog {
		l = append(l, of(t, number), of(t, number, texts()[number%len(texts())]))
	}
	for many := range api.MaxBatch + 1 {
		l = append(l, of(t, 10, texts()[:many]...))
	}
	return l
}

// sumOf is the sum in other words: each byte counts by how many are behind it.
func sumOf(b []byte) int {
	sum, times := 0, 1
	for i := len(b) - 1; i >= 0; i-- {
		sum = (sum + (int(b[i])+1)*times) % 65521
		times = times * 257 % 65521
	}
	return (sum + times) % 65521
}

// summed answers s, and its sum in two bytes.
func summed(s string) []byte {
	n := sumOf([]byte(s))
	return append([]byte(s), byte(n/256), byte(n%256))
}

func TestSum(t *testing.T) {
	for _, c := range []struct {
		b    string
		want int
	}{
		{"", 1},
		{"\x00", 258},
		{"\x01", 259},
		{"\n", 268},
		{"\xff", 513},
		{"\x00\x00", 786},
		{"\x00\n", 796},
		{"\x0c", 270},
		{"\x00reads; writes", 55299},
		{"\x00reads; writes\n\n", 43865},
		{"\x05reads; writes\n", 20126},
		{strings.Repeat("reads; writes\n", 3), sumOf([]byte(strings.Repeat("reads; writes\n", 3)))},
	} {
		if got := Sum([]byte(c.b)); got != c.want {
			t.Errorf("Sum(%q): %d, not %d", c.b, got, c.want)
		}
	}
	if got := Sum(nil); got != 1 {
		t.Errorf("Sum(nil): %d", got)
	}
}

func TestSumOfManyBytes(t *testing.T) {
	b := make([]byte, 0, 3000)
	for i := range 3000 {
		if got := Sum(b); got != sumOf(b) || got < 0 || got >= 65521 {
			t.Fatalf("Sum of %d bytes: %d, not %d", len(b), got, sumOf(b))
		}
		b = append(b, byte(i*i+7*i/5))
	}
}

// Bytes behind one another: the order counts, and so do bytes that are 0.
func TestSumTellsApart(t *testing.T) {
	seen := map[int]string{}
	for _, s := range []string{"", "\x00", "\x00\x00", "\x00\x00\x00", "ab", "ba", "a", "b", "abc", "acb", "cab", "\x00a", "a\x00"} {
		sum := Sum([]byte(s))
		if other, ok := seen[sum]; ok {
			t.Errorf("Sum(%q) is that of %q: %d", s, other, sum)
		}
		seen[sum] = s
	}
}

// wrongDeed is wrong for that reason.
func wrongDeed(want api.Errno) api.Deed {
	switch want {
	case api.ErrMany:
		return api.Deed{Reads: []string{"a", "b", "c", "d", "e", "f"}}
	case api.ErrName:
		return api.Deed{Writes: []string{"A"}}
	case api.ErrKind:
		return api.Deed{Code: []api.Instr{{}}}
	case api.ErrRange:
		return api.Deed{Code: []api.Instr{{Kind: api.InFail, A: api.MaxRegs}}}
	case api.ErrForm:
		return api.Deed{Code: []api.Instr{{Kind: api.InFail, Key: "a"}}}
	}
	return api.Deed{Code: []api.Instr{{Kind: api.InLoad, Key: "a"}}}
}

func deedErrors() []api.Errno {
	return []api.Errno{api.ErrMany, api.ErrName, api.ErrKind, api.ErrRange, api.ErrForm, api.ErrKey}
}

// wrongIs looks that e is wrong for that reason, and has no bytes.
func wrongIs(t *testing.T, e api.Entry, want api.Errno) {
	t.Helper()
	if got := Wrong(e); got != want {
		t.Errorf("Wrong(%v): %d, not %d", e, got, want)
	}
	if got := Bytes(e); (len(got) == 0) != (want != api.OK) {
		t.Errorf("Bytes(%v): %q", e, got)
	}
}

func TestWrongNumbers(t *testing.T) {
	for _, number := range []int{math.MinInt, math.MinInt + 1, -256, -1, 12, 13, 255, 256, 257, 267, 268, 1 << 32, math.MaxInt} {
		wrongIs(t, of(t, number), api.ErrRange)
		wrongIs(t, of(t, number, more), api.ErrRange)
	}
	for number := range api.MaxLog {
		wrongIs(t, of(t, number), api.OK)
		wrongIs(t, of(t, number, more), api.OK)
	}
}

func TestWrongHowMany(t *testing.T) {
	for many := range 3 * api.MaxBatch {
		want := api.OK
		if many > api.MaxBatch {
			want = api.ErrMany
		}
		wrongIs(t, of(t, 5, slices.Repeat([]string{more}, many)...), want)
		wrongIs(t, api.Entry{Deeds: make([]api.Deed, many)}, want)
	}
}

// The first deed that is wrong is told of, wherever it stands.
func TestWrongDeeds(t *testing.T) {
	for _, want := range deedErrors() {
		for ahead := range api.MaxBatch {
			l := slices.Repeat(readAll(t, more), api.MaxBatch)
			l[ahead] = wrongDeed(want)
			wrongIs(t, api.Entry{Number: 4, Deeds: l}, want)
			wrongIs(t, api.Entry{Number: 4, Deeds: l[:ahead+1]}, want)
			wrongIs(t, api.Entry{Number: 4, Deeds: l[:ahead]}, api.OK)
			for _, behind := range deedErrors() {
				if ahead+1 < len(l) {
					l[ahead+1] = wrongDeed(behind)
					wrongIs(t, api.Entry{Number: 4, Deeds: l}, want)
				}
			}
		}
	}
}

func TestWrongOrder(t *testing.T) {
	many := slices.Repeat([]api.Deed{wrongDeed(api.ErrKey)}, api.MaxBatch+1)
	wrongIs(t, api.Entry{Number: api.MaxLog, Deeds: many}, api.ErrRange)
	wrongIs(t, api.Entry{Number: -1, Deeds: many}, api.ErrRange)
	wrongIs(t, api.Entry{Number: -1, Deeds: many[:1]}, api.ErrRange)
	wrongIs(t, api.Entry{Number: 0, Deeds: many}, api.ErrMany)
	wrongIs(t, api.Entry{Number: 0, Deeds: many[1:]}, api.ErrKey)
}

func TestEntryOfOneDeed(t *testing.T) {
	b := Bytes(of(t, 7, fiveC))
	want := summed("\x07" + fiveC + "\n")
	if len(b) != 43 || !bytes.Equal(b, want) {
		t.Errorf("%d bytes: %q, not %q", len(b), b, want)
	}
}

func TestBytes(t *testing.T) {
	for _, c := range []struct {
		e    api.Entry
		want string
	}{
		{api.Entry{}, "\x00\x01\x02"},
		{api.Entry{Deeds: []api.Deed{}}, "\x00\x01\x02"},
		{of(t, 1), "\x01\x01\x03"},
		{of(t, 10), "\n\x01\x0c"},
		{of(t, 11), "\x0b\x01\x0d"},
		{of(t, 0, none), "\x00reads; writes\n\xe7\xb6"},
		{of(t, 5, none), "\x05reads; writes\n\x4e\x9e"},
	} {
		if got := Bytes(c.e); string(got) != c.want {
			t.Errorf("Bytes(%v): %q, not %q", c.e, got, c.want)
		}
	}
}

func TestThereAndBack(t *testing.T) {
	for _, e := range rightOnes(t) {
		want := string([]byte{byte(e.Number)})
		for _, d := range e.Deeds {
			want += text.Print(d) + "\n"
		}
		b := Bytes(e)
		if !bytes.Equal(b, summed(want)) {
			t.Errorf("Bytes(%v): %q, not %q", e, b, summed(want))
		}
		got, errno := Parse(b)
		if errno != api.OK || !same(got, e) {
			t.Errorf("Parse(%q): %v %d, not %v", b, got, errno, e)
		}
	}
}

// Which deed comes first is told: entries with their deeds turned are others.
func TestDeedsInTurn(t *testing.T) {
	e := of(t, 2, more, fiveC, ifA)
	got, errno := Parse(Bytes(e))
	if errno != api.OK || !same(got, e) {
		t.Errorf("%v %d, not %v", got, errno, e)
	}
	if bytes.Equal(Bytes(of(t, 2, fiveC, more, ifA)), Bytes(e)) {
		t.Error("turned deeds have the same bytes")
	}
}

// refused looks that b is no entry, for that reason, and answers nothing beside
// it.
func refused(t *testing.T, b []byte, want api.Errno) {
	t.Helper()
	e, errno := Parse(b)
	if errno != want {
		t.Errorf("Parse(%q): errno %d, not %d", b, errno, want)
	}
	if !reflect.DeepEqual(e, api.Entry{}) {
		t.Errorf("Parse(%q): %v beside an error", b, e)
	}
}

func TestParseEnd(t *testing.T) {
	for _, s := range []string{"", "\x00", "\n", "\xff", "\x00\x01", "\x01\x02", "\n\n", "\x00\x00"} {
		refused(t, []byte(s), api.ErrEnd)
	}
	refused(t, nil, api.ErrEnd)
	// The sum of no bytes, that fits, is too few all the same.
	refused(t, summed(""), api.ErrEnd)
}

// One byte turned is found, whichever, and whatever it is turned into.
func TestOneByteTurned(t *testing.T) {
	for _, e := range []api.Entry{of(t, 0), of(t, 10), of(t, 7, fiveC), of(t, 11, none, more)} {
		whole := Bytes(e)
		for at := range whole {
			for turned := range 256 {
				if byte(turned) == whole[at] {
					continue
				}
				b := slices.Clone(whole)
				b[at] = byte(turned)
				refused(t, b, api.ErrForm)
			}
		}
	}
}

// Bytes that are not there, or there once more, are found.
func TestBytesLostAndTwice(t *testing.T) {
	for _, e := range []api.Entry{of(t, 7, fiveC), of(t, 11, none, more)} {
		whole := Bytes(e)
		for at := range whole {
			want := api.ErrForm
			if at < 3 {
				want = api.ErrEnd
			}
			refused(t, whole[:at], want)
			refused(t, slices.Insert(slices.Clone(whole), at, 'a'), api.ErrForm)
			refused(t, slices.Concat(whole[:at], whole[at+1:]), api.ErrForm)
		}
		refused(t, append(slices.Clone(whole), 0), api.ErrForm)
		refused(t, slices.Concat(whole, whole), api.ErrForm)
	}
}

// lowSum answers the beginning of an entry whose sum is so low that the same
// rest is told by a greater number of two bytes, too.
func lowSum(t *testing.T) string {
	t.Helper()
	for n := range 1 << 20 {
		s := "\x03reads; writes; const r0 " + strconv.Itoa(n) + "\n"
		if sumOf([]byte(s)) < 1<<16-65521 {
			return s
		}
	}
	t.Fatal("no sum is so low")
	return ""
}

// The sum is told in one way alone: a rest that is not below 65521 is none.
func TestSumIsTheRest(t *testing.T) {
	s := lowSum(t)
	if e, errno := Parse(summed(s)); errno != api.OK || e.Number != 3 || len(e.Deeds) != 1 {
		t.Errorf("Parse(%q): %v %d", s, e, errno)
	}
	n := sumOf([]byte(s)) + 65521
	refused(t, append([]byte(s), byte(n/256), byte(n%256)), api.ErrForm)
}

// The upper byte of the sum comes first.
func TestSumTurned(t *testing.T) {
	for _, s := range []string{"\x00", "\x05reads; writes\n"} {
		b := summed(s)
		n := len(b)
		b[n-1], b[n-2] = b[n-2], b[n-1]
		refused(t, b, api.ErrForm)
	}
}

func TestLastLineEnds(t *testing.T) {
	for _, s := range []string{
		"\x05reads; writes", "\nreads; writes", "\x05 ", "\x05\r", "\x05x", "\x05\n ", "\x05\nreads; writes", "\x05zap\nzap",
		"\x05reads; writes\nreads; writes", "\xffreads; writes", "\x05reads; writes\n\x00", "\x05reads; writes;",
	} {
		refused(t, summed(s), api.ErrForm)
	}
	// A number that is a line feed ends no line, and needs none.
	if e, errno := Parse(summed("\n")); errno != api.OK || !same(e, of(t, 10)) {
		t.Errorf("number 10: %v %d", e, errno)
	}
	if e, errno := Parse(summed("\nreads; writes\n")); errno != api.OK || !same(e, of(t, 10, none)) {
		t.Errorf("number 10, and a deed: %v %d", e, errno)
	}
}

// What is wrong with a line is told as its text's error.
func TestLinesThatAreNoDeeds(t *testing.T) {
	for line, want := range map[string]api.Errno{
		"":                                    api.ErrEnd,
		" ":                                   api.ErrEnd,
		"reads":                               api.ErrEnd,
		"reads;\twrites":                      api.ErrEnd,
		strings.Repeat("x", api.MaxText):      api.ErrEnd,
		strings.Repeat("x", api.MaxText+1):    api.ErrMuch,
		strings.Repeat("zap; ", api.MaxText):  api.ErrMuch,
		"writes; reads":                       api.ErrForm,
		"reads; writes\r":                     api.ErrForm,
		" reads; writes":                      api.ErrForm,
		"reads; writes; fail":                 api.ErrForm,
		"reads; writes; const r0 01":          api.ErrForm,
		"reads; writes; zap":                  api.ErrKind,
		"reads; writes; ":                     api.ErrKind,
		"reads; writes ":                      api.ErrName,
		"reads A; writes":                     api.ErrName,
		"reads a b c d e f; writes":           api.ErrMany,
		"reads; writes; fail r4":              api.ErrRange,
		"reads; writes; const r0 1073741825":  api.ErrRange,
		"reads; writes; load r0 a":            api.ErrKey,
		"reads a; writes; load r0 a; drop a":  api.ErrKey,
		"reads; writes\x00":                   api.ErrForm,
		"reads; writes a\x00":                 api.ErrName,
		"reads; writes; fail r0; reads; zap":  api.ErrKind,
		"reads; writes; fail r0;reads; write": api.ErrForm,
	} {
		for number := range api.MaxLog {
			start := string([]byte{byte(number)})
			refused(t, summed(start+line+"\n"), want)
			refused(t, summed(start+none+"\n"+line+"\n"), want)
			refused(t, summed(start+line+"\n"+none+"\n"), want)
			refused(t, summed(start+line+"\nzap\n"), want)
		}
	}
}

func TestWrongEntriesAreNotRead(t *testing.T) {
	lines := func(n int) string { return strings.Repeat(none+"\n", n) }
	for _, number := range []int{12, 13, 127, 128, 244, 255} {
		start := string([]byte{byte(number)})
		refused(t, summed(start), api.ErrRange)
		refused(t, summed(start+lines(1)), api.ErrRange)
		refused(t, summed(start+lines(7)), api.ErrRange)
	}
	for many := range 3 * api.MaxBatch {
		b := summed("\x0b" + lines(many))
		if many > api.MaxBatch {
			refused(t, b, api.ErrMany)
		} else if e, errno := Parse(b); errno != api.OK || e.Number != 11 || len(e.Deeds) != many {
			t.Errorf("%d deeds: %v %d", many, e, errno)
		}
	}
}

// The sum, and the last line's end, ahead of lines; these, all of them, ahead of
// what is wrong with the entry.
func TestWhichErrorFirst(t *testing.T) {
	seven := strings.Repeat(none+"\n", 7)
	refused(t, []byte("\xffzap\n\x00\x00"), api.ErrForm)
	refused(t, []byte("\xff\x00\x00"), api.ErrForm)
	refused(t, summed("\xffreads A; writes\nzap"), api.ErrForm)
	refused(t, summed("\xff"+seven+"zap"), api.ErrForm)
	refused(t, summed("\xffreads A; writes\n"), api.ErrName)
	refused(t, summed("\xffreads; writes; zap\n"), api.ErrKind)
	refused(t, summed("\xff"+seven+"\n"), api.ErrEnd)
	refused(t, summed("\x00"+seven+"reads A; writes\n"), api.ErrName)
	refused(t, summed("\xff"+seven), api.ErrRange)
	refused(t, summed("\x00"+seven), api.ErrMany)
}

// What is read is written again to the same bytes: each entry has one form.
func TestOneFormEach(t *testing.T) {
	pieces := []string{"\n", "reads; writes\n", "reads a; writes a\n", "reads; writes", more + "\n", "; fail r0\n", "zap", "\x00", " "}
	for number := range 256 {
		for i := range 200 {
			s := string([]byte{byte(number)})
			for k := i; k > 0; k /= len(pieces) {
				s += pieces[(k+number)%len(pieces)]
			}
			b := summed(s)
			e, errno := Parse(b)
			switch {
			case errno != api.OK:
				refused(t, b, errno)
			case Wrong(e) != api.OK || !bytes.Equal(Bytes(e), b):
				t.Errorf("Parse(%q): %v", b, e)
			}
		}
	}
}

// entries are right and wrong ones; Own copies both.
func entries(t *testing.T) []api.Entry {
	t.Helper()
	l := append(rightOnes(t), api.Entry{Number: math.MinInt}, api.Entry{Number: math.MaxInt, Deeds: make([]api.Deed, 9)})
	for _, errno := range deedErrors() {
		l = append(l, api.Entry{Number: -1, Deeds: []api.Deed{wrongDeed(errno), {}}})
	}
	return l
}

func TestOwn(t *testing.T) {
	l := entries(t)
	for many := range len(l) + 1 {
		if got := Own(l[:many]); !slices.EqualFunc(got, l[:many], same) {
			t.Errorf("Own(%v): %v", l[:many], got)
		}
	}
	if len(Own(nil)) != 0 || len(Own([]api.Entry{})) != 0 {
		t.Error("Own of none is some")
	}
}

// room answers a copy of l with spare room behind it, in which x stands.
func room[T any](l []T, x T) []T {
	whole := append(append(make([]T, 0, len(l)+2), l...), x, x)
	return whole[:len(l)]
}

// roomyDeed and roomy answer copies with spare room behind each of their lists.
func roomyDeed(d api.Deed) api.Deed {
	return api.Deed{Reads: room(d.Reads, "spare"), Writes: room(d.Writes, "spare"), Code: room(d.Code, api.Instr{Kind: 77})}
}

func roomy(l []api.Entry) []api.Entry {
	var own []api.Entry
	for _, e := range l {
		var deeds []api.Deed
		for _, d := range e.Deeds {
			deeds = append(deeds, roomyDeed(d))
		}
		own = append(own, api.Entry{Number: e.Number, Deeds: room(deeds, wrongDeed(api.ErrName))})
	}
	return room(own, api.Entry{Number: 77})
}

// whole answers a copy of l, as far as its room goes.
func whole[T any](l []T) []T { return slices.Clone(l[:cap(l)]) }

// wholeOf answers a copy of l, with all the spare room that it has.
func wholeOf(l []api.Entry) []api.Entry {
	all := whole(l)
	for i, e := range all {
		all[i].Deeds = whole(e.Deeds)
		for k, d := range all[i].Deeds {
			all[i].Deeds[k] = api.Deed{Reads: whole(d.Reads), Writes: whole(d.Writes), Code: whole(d.Code)}
		}
	}
	return all
}

// blot writes over all of l's memory, its spare room too.
func blot(l []api.Entry) {
	for _, e := range l[:cap(l)] {
		for _, d := range e.Deeds[:cap(e.Deeds)] {
			clear(d.Reads[:cap(d.Reads)])
			clear(d.Writes[:cap(d.Writes)])
			clear(d.Code[:cap(d.Code)])
		}
		clear(e.Deeds[:cap(e.Deeds)])
	}
	clear(l[:cap(l)])
}

func TestOwnSharesNothing(t *testing.T) {
	want, l := entries(t), roomy(entries(t))
	before := wholeOf(l)
	blot(Own(l))
	if !reflect.DeepEqual(wholeOf(l), before) {
		t.Error("Own answers what it is handed")
	}
	got := Own(l)
	blot(l)
	if !slices.EqualFunc(got, want, same) {
		t.Errorf("Own keeps what it is handed: %v", got)
	}
}

// Who makes one list of an answer longer does not write into another one.
func TestListsOfAnAnswerAreApart(t *testing.T) {
	d := readAll(t, more)[0]
	d.Writes = d.Reads
	twice := []api.Deed{d, d}
	in := []api.Entry{{Number: 1, Deeds: twice}, {Number: 1, Deeds: twice}}
	parsed, errno := Parse(Bytes(in[0]))
	if errno != api.OK {
		t.Fatalf("Parse: %d", errno)
	}
	for _, l := range [][]api.Entry{Own(in), {parsed, Own(in)[0]}} {
		l[0].Deeds[0].Reads[0], l[0].Deeds[0].Code[0].Key = "z", "z"
		l[0].Deeds[0].Reads = append(l[0].Deeds[0].Reads, "x", "y", "z")
		l[0].Deeds[1] = api.Deed{}
		l[0].Deeds = append(l[0].Deeds, api.Deed{}, api.Deed{})
		if !slices.Equal(l[0].Deeds[0].Writes, d.Writes) || !same(l[1], in[1]) || !same(in[0], in[1]) {
			t.Errorf("lists share memory: %v", l)
		}
	}
}

func TestWhoAsksOnlyReads(t *testing.T) {
	l := roomy(entries(t))
	before := wholeOf(l)
	for i, e := range l {
		if Wrong(e) != Wrong(entries(t)[i]) || !bytes.Equal(Bytes(e), Bytes(entries(t)[i])) {
			t.Errorf("what stands behind the lists is looked at: %v", e)
		}
	}
	if !reflect.DeepEqual(wholeOf(l), before) {
		t.Error("Wrong, or Bytes, changes what it is handed")
	}
}

func TestParseOnlyReads(t *testing.T) {
	for _, e := range rightOnes(t) {
		b := room(Bytes(e), '\n')
		before := whole(b)
		sum := Sum(b)
		got, errno := Parse(b)
		if !bytes.Equal(whole(b), before) {
			t.Errorf("Parse changes what it is handed: %q", b)
		}
		clear(b[:cap(b)])
		if errno != api.OK || !same(got, e) || sum != sumOf(before[:len(b)]) {
			t.Errorf("Parse keeps what it is handed, or looks behind it: %v %d", got, errno)
		}
	}
}

// Two calls answer the same, and share nothing.
func TestCallsShareNothing(t *testing.T) {
	e := of(t, 4, texts()...)
	b := Bytes(e)
	clear(b[:cap(b)])
	b = Bytes(e)
	got, _ := Parse(b)
	blot([]api.Entry{got})
	again, errno := Parse(b)
	if errno != api.OK || !same(again, e) || !same(e, of(t, 4, texts()...)) {
		t.Errorf("%v %d, not %v", again, errno, e)
	}
}

// What is much too long ends all the same.
func TestMuch(t *testing.T) {
	refused(t, summed("\x00"+strings.Repeat("\n", 1<<20)), api.ErrEnd)
	refused(t, summed("\x00"+strings.Repeat("x", 1<<20)+"\n"), api.ErrMuch)
	refused(t, summed("\x00"+strings.Repeat(none+"\n", 1<<14)), api.ErrMany)
	refused(t, summed("\xff"+strings.Repeat(none+"\n", 1<<14)), api.ErrRange)
	refused(t, make([]byte, 1<<20), api.ErrForm)
	wrongIs(t, api.Entry{Deeds: make([]api.Deed, 1<<16)}, api.ErrMany)
}
