package text

import (
	"reflect"
	"slices"
	"strconv"
	"strings"
	"testing"

	"rankandfile/api"
	"rankandfile/deed"
)

// every is a deed with each kind of instruction; its text is everyText.
func every() api.Deed {
	return api.Deed{Reads: []string{"a", "b"}, Writes: []string{"c", "a"}, Code: []api.Instr{
		{Kind: api.InLoad, A: 1, Key: "b"},
		{Kind: api.InConst, A: 2, N: -5},
		{Kind: api.InAdd, A: 0, B: 1},
		{Kind: api.InSub, A: 3, B: 2},
		{Kind: api.InMul, A: 1, B: 3},
		{Kind: api.InStore, A: 3, Key: "c"},
		{Kind: api.InDrop, Key: "a"},
		{Kind: api.InSkip, A: 2, N: 1},
		{Kind: api.InFail, A: 1},
	}}
}

const everyText = "reads a b; writes c a; load r1 b; const r2 -5; add r0 r1; sub r3 r2; mul r1 r3; store r3 c; drop a; skip r2 1; fail r1"

// whole is the text of a deed with one instruction, that reads a and b, and
// writes b and c.
func whole(instr string) string { return "reads a b; writes b c; " + instr }

// oneOf is the deed whose text whole is.
func oneOf(in api.Instr) api.Deed {
	return api.Deed{Reads: []string{"a", "b"}, Writes: []string{"b", "c"}, Code: []api.Instr{in}}
}

// bothWays holds d against its text, there and back.
func bothWays(t *testing.T, d api.Deed, s string) {
	t.Helper()
	if got := Print(d); got != s {
		t.Errorf("Print: %q, not %q", got, s)
	}
	got, e := Parse(s)
	if e != api.OK || !deed.Same(got, d) {
		t.Errorf("Parse(%q): %v %d, not %v", s, got, e, d)
	}
}

// refused looks that s is no deed's text, for that reason, and nothing beside it.
func refused(t *testing.T, s string, want api.Errno) {
	t.Helper()
	d, e := Parse(s)
	if e != want {
		t.Errorf("Parse(%q): errno %d, not %d", s, e, want)
	}
	if !reflect.DeepEqual(d, api.Deed{}) {
		t.Errorf("Parse(%q): %v beside an error", s, d)
	}
}

func TestThereAndBack(t *testing.T) {
	bothWays(t, every(), everyText)
	bothWays(t, api.Deed{}, "reads; writes")
	bothWays(t, api.Deed{Reads: []string{}, Writes: []string{}, Code: []api.Instr{}}, "reads; writes")
	bothWays(t, api.Deed{Reads: []string{"a"}}, "reads a; writes")
	bothWays(t, api.Deed{Writes: []string{"a"}}, "reads; writes a")
	bothWays(t, api.Deed{Reads: []string{"a", "b"}, Writes: []string{"c"}, Code: []api.Instr{
		{Kind: api.InLoad, Key: "a"},
	}}, "reads a b; writes c; load r0 a")
	for n, s := range map[int]string{0: "0", 1: "1", -1: "-1", 10: "10", api.MaxNum: "1073741824", -api.MaxNum: "-1073741824"} {
		bothWays(t, oneOf(api.Instr{Kind: api.InConst, A: 3, N: n}), whole("const r3 "+s))
	}
}

// The words of texts are no names that keys may not have.
func TestKeysThatAreWords(t *testing.T) {
	bothWays(t, api.Deed{
		Reads:  []string{"reads", "writes", "key", "n", "r"},
		Writes: []string{"writes", "load", "drop", "key", "const"},
		Code: []api.Instr{
			{Kind: api.InLoad, A: 1, Key: "n"},
			{Kind: api.InLoad, A: 2, Key: "key"},
			{Kind: api.InStore, A: 1, Key: "load"},
			{Kind: api.InDrop, Key: "drop"},
		},
	}, "reads reads writes key n r; writes writes load drop key const; load r1 n; load r2 key; store r1 load; drop drop")
}

// Every instruction that is right, of each kind, with all of its registers.
func TestEveryRegister(t *testing.T) {
	for kind, word := range []string{api.InAdd: "add", api.InSub: "sub", api.InMul: "mul"} {
		for a := 0; a < api.MaxRegs && word != ""; a++ {
			for b := range api.MaxRegs {
				in := api.Instr{Kind: kind, A: a, B: b}
				bothWays(t, oneOf(in), whole(word+" r"+strconv.Itoa(a)+" r"+strconv.Itoa(b)))
			}
		}
	}
	for a := range api.MaxRegs {
		r := "r" + strconv.Itoa(a)
		bothWays(t, oneOf(api.Instr{Kind: api.InLoad, A: a, Key: "b"}), whole("load "+r+" b"))
		bothWays(t, oneOf(api.Instr{Kind: api.InConst, A: a, N: 7}), whole("const "+r+" 7"))
		bothWays(t, oneOf(api.Instr{Kind: api.InStore, A: a, Key: "c"}), whole("store "+r+" c"))
		bothWays(t, oneOf(api.Instr{Kind: api.InFail, A: a}), whole("fail "+r))
	}
}

// The longest text of a right deed is none that is too much.
func TestLongest(t *testing.T) {
	d := api.Deed{
		Reads:  []string{"aaaaaa", "bbbbbb", "cccccc", "dddddd", "eeeeee"},
		Writes: []string{"vvvvvv", "wwwwww", "xxxxxx", "yyyyyy", "zzzzzz"},
		Code:   slices.Repeat([]api.Instr{{Kind: api.InConst, A: 3, N: -api.MaxNum}}, api.MaxCode),
	}
	bothWays(t, d, "reads aaaaaa bbbbbb cccccc dddddd eeeeee; writes vvvvvv wwwwww xxxxxx yyyyyy zzzzzz"+
		strings.Repeat("; const r3 -1073741824", api.MaxCode))
}

func TestMuchAndEnd(t *testing.T) {
	refused(t, strings.Repeat("x", api.MaxText), api.ErrEnd)
	refused(t, strings.Repeat("x", api.MaxText+1), api.ErrMuch)
	long := "reads; writes " + strings.Repeat("a", api.MaxText)
	refused(t, long[:api.MaxText], api.ErrName)
	refused(t, long[:api.MaxText+1], api.ErrMuch)
	// Bytes are counted, not letters.
	refused(t, strings.Repeat("ä", api.MaxText/2), api.ErrEnd)
	refused(t, strings.Repeat("ä", api.MaxText/2)+"x", api.ErrMuch)
	for _, s := range []string{"", " ", ";", "reads", "writes", "reads a b", "reads;writes", "reads;", "reads ;writes", "reads;\nwrites", "zap"} {
		refused(t, s, api.ErrEnd)
	}
}

func TestFirstTwoParts(t *testing.T) {
	for _, s := range []string{
		"; ", "; writes", "reads; ", "reads; reads", "writes; writes", "writes; reads", "read; writes", "reads; write",
		"readsa; writes", "reads; writesa", "Reads; writes", "reads; WRITES", " reads; writes", "reads;  writes", "reads; writes;",
		"a reads; writes", "reads; b writes", "reads\ta; writes", "reads; writes\n", "reads; load r0 a", "zap; zap",
		"reads; ; writes", "reads;; writes; ",
		// What is wrong behind them is not told ahead of them.
		"writes; reads; zap", "reads; zap; zap", "zap; writes; zap", "reads A; zap",
	} {
		refused(t, s, api.ErrForm)
	}
}

func TestNoKind(t *testing.T) {
	for _, in := range []string{
		"", " ", "zap", "zap r0", " fail r0", "reads", "reads a", "writes", "writes b", "loads r0 a", "loa r0 a", "Load r0 a",
		"load\tr0 a", "fail;", "; fail r0", "r0", "0", "key", "n", "rA", "failr0",
	} {
		refused(t, whole(in), api.ErrKind)
	}
	refused(t, whole("fail r0; "), api.ErrKind)
	refused(t, whole("fail r0; ; fail r0"), api.ErrKind)
}

func TestHowManyWords(t *testing.T) {
	for _, in := range []string{
		"load r0 a", "const r0 1", "add r0 r1", "sub r0 r1", "mul r0 r1", "store r0 b", "drop b", "fail r0",
	} {
		if d, e := Parse(whole(in)); e != api.OK || len(d.Code) != 1 {
			t.Errorf("%q: %v %d", in, d, e)
		}
		last := strings.LastIndex(in, " ")
		refused(t, whole(in[:last]), api.ErrForm)
		refused(t, whole(in+" "), api.ErrForm)
		refused(t, whole(in+" b"), api.ErrForm)
		refused(t, whole(in+" 1"), api.ErrForm)
		refused(t, whole(strings.Replace(in, " ", "  ", 1)), api.ErrForm)
		first, _, _ := strings.Cut(in, " ")
		refused(t, whole(first), api.ErrForm)
	}
	if d, e := Parse(whole("skip r0 1; fail r0")); e != api.OK || len(d.Code) != 2 {
		t.Errorf("skip: %v %d", d, e)
	}
	for _, in := range []string{"skip", "skip r0", "skip r0 1 ", "skip r0 1 1", "skip  r0 1"} {
		refused(t, whole(in+"; fail r0"), api.ErrForm)
	}
}

func TestRegisters(t *testing.T) {
	places := []string{"load R a", "const R 1", "add R r0", "add r0 R", "sub R r0", "sub r0 R", "mul R r0", "mul r0 R", "store R b", "skip R 1; fail r0", "fail R"}
	for _, place := range places {
		for _, r := range []string{"", "r", "0", "R0", "rr0", "r00", "r01", "r+0", "r+1", "r-0", "r-", "r-01", "0r", "r0r", "ra", "r1a", "r0x1", "r1.", "r1_0", "r1e0", "r9223372036854775808", "-r1", "r٣", "a", "b"} {
			refused(t, whole(strings.Replace(place, "R", r, 1)), api.ErrForm)
		}
		for _, r := range []string{"r4", "r-1", "r10", "r1073741824", "r9223372036854775807", "r-9223372036854775808"} {
			refused(t, whole(strings.Replace(place, "R", r, 1)), api.ErrRange)
		}
	}
}

func TestNumbers(t *testing.T) {
	for _, place := range []string{"const r0 ", "skip r0 "} {
		for _, n := range []string{"", "-", "+", "00", "01", "-01", "-0", "+0", "+1", "--1", "-+1", "1-", "1+1", "a", "1a", "0x1", "0b1", "0o1", "1_0", "1e1", "1.0", "1.", "\t1", "٣", "r1", "9223372036854775808", "-9223372036854775809", "99999999999999999999999999"} {
			refused(t, whole(place+n+"; fail r0"), api.ErrForm)
		}
		for _, n := range []string{"1073741825", "-1073741825", "9223372036854775807", "-9223372036854775808"} {
			refused(t, whole(place+n+"; fail r0"), api.ErrRange)
		}
	}
	for _, n := range []string{"0", "-1", "2"} {
		refused(t, whole("skip r0 "+n+"; fail r0"), api.ErrRange)
	}
}

// What Wrong tells of a deed is told of its text.
func TestWrongDeeds(t *testing.T) {
	for s, want := range map[string]api.Errno{
		"reads ; writes":                    api.ErrName,
		"reads; writes ":                    api.ErrName,
		"reads  a; writes":                  api.ErrName,
		"reads a ; writes":                  api.ErrName,
		"reads a; writes b  c":              api.ErrName,
		"reads A; writes":                   api.ErrName,
		"reads a a; writes":                 api.ErrName,
		"reads; writes a b a":               api.ErrName,
		"reads; writes abcdefg":             api.ErrName,
		"reads a,b; writes":                 api.ErrName,
		"reads a b c d e f; writes":         api.ErrMany,
		"reads; writes a b c d e f":         api.ErrMany,
		"reads A; writes a b c d e f":       api.ErrName,
		whole("load r0 c"):                  api.ErrKey,
		whole("load r0 "):                   api.ErrKey,
		whole("load r0 A"):                  api.ErrKey,
		whole("load r0 r0"):                 api.ErrKey,
		whole("store r0 a"):                 api.ErrKey,
		whole("store r0 "):                  api.ErrKey,
		whole("drop a"):                     api.ErrKey,
		whole("drop "):                      api.ErrKey,
		whole("skip r0 1"):                  api.ErrRange,
		whole("load r4 c"):                  api.ErrRange,
		whole("drop a; const r4 1"):         api.ErrKey,
		whole("const r4 1; drop a"):         api.ErrRange,
		"reads A; writes; load r0 b":        api.ErrName,
		"reads; writes; load r0 a; fail r0": api.ErrKey,
	} {
		refused(t, s, want)
	}
	most := "reads; writes" + strings.Repeat("; fail r0", api.MaxCode)
	if d, e := Parse(most); e != api.OK || len(d.Code) != api.MaxCode {
		t.Errorf("%q: %v %d", most, d, e)
	}
	refused(t, most+"; fail r0", api.ErrMany)
	refused(t, most+"; fail r4", api.ErrMany)
}

// Part by part; and what Wrong tells comes behind all of them.
func TestWhichErrorFirst(t *testing.T) {
	for s, want := range map[string]api.Errno{
		whole("fail; zap"):                  api.ErrForm,
		whole("zap; fail"):                  api.ErrKind,
		whole("fail r0; zap; fail"):         api.ErrKind,
		whole("fail r9; zap"):               api.ErrKind,
		whole("load r0 c; const r0 01"):     api.ErrForm,
		"reads A; writes; zap":              api.ErrKind,
		"reads A; writes; fail":             api.ErrForm,
		"reads a b c d e f; writes; fail r": api.ErrForm,
		"reads a a; writes; fail r4; fail":  api.ErrForm,
		"reads; writes" + strings.Repeat("; fail r0", api.MaxCode) + "; zap": api.ErrKind,
		strings.Repeat("zap; ", api.MaxText):                                 api.ErrMuch,
	} {
		refused(t, s, want)
	}
}

func TestPrintOfWrongDeeds(t *testing.T) {
	for _, d := range []api.Deed{
		{Reads: []string{"A"}},
		{Reads: []string{"a; writes"}},
		{Writes: []string{"a", "a"}},
		{Code: []api.Instr{{}}},
		{Code: []api.Instr{{Kind: -1}}},
		{Code: []api.Instr{{Kind: api.InFail + 1}}},
		{Code: []api.Instr{{Kind: api.InFail, A: 4}}},
		{Code: []api.Instr{{Kind: api.InFail, B: 1}}},
		{Code: []api.Instr{{Kind: api.InLoad, Key: "a"}}},
		{Code: slices.Repeat([]api.Instr{{Kind: api.InFail}}, api.MaxCode+1)},
	} {
		if got := Print(d); got != "" {
			t.Errorf("Print(%v): %q", d, got)
		}
	}
}

// One byte more, less or otherwise is no text, or that of a deed with a text
// that is this one, and no other one.
func TestOneTextEach(t *testing.T) {
	const bytes = "arz019+- ;R\x00\xff\n"
	for i := 0; i <= len(everyText); i++ {
		for _, b := range []byte(bytes) {
			looksRight(t, everyText[:i]+string([]byte{b})+everyText[i:])
			if i < len(everyText) {
				looksRight(t, everyText[:i]+string([]byte{b})+everyText[i+1:])
			}
		}
		looksRight(t, everyText[:i])
		looksRight(t, everyText[i:])
		looksRight(t, everyText[:i]+everyText[min(i+1, len(everyText)):])
	}
}

func looksRight(t *testing.T, s string) {
	t.Helper()
	d, e := Parse(s)
	if e != api.OK {
		refused(t, s, e)
		return
	}
	if deed.Wrong(d) != api.OK {
		t.Errorf("Parse(%q): a wrong deed, %v", s, d)
	}
	if got := Print(d); got != s {
		t.Errorf("Parse(%q) is printed as %q", s, got)
	}
}

// Print reads no spare room behind lists, and changes nothing of them.
func TestPrintOnlyReads(t *testing.T) {
	d := every()
	d.Reads = append(d.Reads, "spare")[:2]
	d.Writes = append(d.Writes, "spare")[:2]
	d.Code = append(d.Code, api.Instr{Kind: api.InFail, A: 2})[:9]
	if got := Print(d); got != everyText {
		t.Errorf("Print: %q", got)
	}
	if !deed.Same(d, every()) || d.Reads[:3][2] != "spare" || d.Writes[:3][2] != "spare" || d.Code[:10][9].A != 2 {
		t.Errorf("Print has changed %v", d)
	}
}

// The lists that Parse answers share no memory, nor do those of two calls.
func TestParseAnswersOwnLists(t *testing.T) {
	a, _ := Parse(everyText)
	b, _ := Parse(everyText)
	a.Reads = append(a.Reads, "x", "y", "z")
	a.Reads[0] = "x"
	if !slices.Equal(a.Writes, every().Writes) || !deed.Same(b, every()) {
		t.Errorf("%v and %v share memory", a, b)
	}
	a.Writes = append(a.Writes, "x", "y", "z")
	a.Writes[0] = "x"
	a.Code[0].Key = "x"
	if !deed.Same(b, every()) {
		t.Errorf("%v and %v share memory", a, b)
	}
}
