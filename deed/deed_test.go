package deed

import (
	"fmt"
	"math"
	"reflect"
	"slices"
	"strings"
	"testing"

	"rankandfile/api"
	"rankandfile/rows"
)

const most = api.MaxNum

func load(a int, key string) api.Instr  { return api.Instr{Kind: api.InLoad, A: a, Key: key} }
func set(a, n int) api.Instr            { return api.Instr{Kind: api.InConst, A: a, N: n} }
func add(a, b int) api.Instr            { return api.Instr{Kind: api.InAdd, A: a, B: b} }
func sub(a, b int) api.Instr            { return api.Instr{Kind: api.InSub, A: a, B: b} }
func mul(a, b int) api.Instr            { return api.Instr{Kind: api.InMul, A: a, B: b} }
func store(a int, key string) api.Instr { return api.Instr{Kind: api.InStore, A: a, Key: key} }
func drop(key string) api.Instr         { return api.Instr{Kind: api.InDrop, Key: key} }
func skip(a, n int) api.Instr           { return api.Instr{Kind: api.InSkip, A: a, N: n} }
func fail(a int) api.Instr              { return api.Instr{Kind: api.InFail, A: a} }

// of answers a deed that reads a and b, and writes b and c: b stands in both.
func of(code ...api.Instr) api.Deed {
	return api.Deed{Reads: []string{"a", "b"}, Writes: []string{"b", "c"}, Code: code}
}

// many answers n instructions that are right.
func many(n int) []api.Instr { return slices.Repeat([]api.Instr{set(0, 1)}, n) }

func keys(s string) []string { return strings.Fields(s) }

func TestWrongKeys(t *testing.T) {
	for _, c := range []struct {
		reads, writes []string
		want          api.Errno
	}{
		{nil, nil, api.OK},
		{[]string{}, []string{}, api.OK},
		{keys("a"), keys("a"), api.OK},
		{keys("b a"), keys("c b a"), api.OK},
		{keys("a b c d e"), keys("e d c b a"), api.OK},
		{keys("abcdef"), keys("zzzzzz"), api.OK},
		{keys("a b c d e f"), nil, api.ErrMany},
		{nil, keys("a b c d e f"), api.ErrMany},
		{keys("a a a a a a"), nil, api.ErrMany},
		{keys("A B C D E F"), nil, api.ErrMany},
		{keys("A"), nil, api.ErrName},
		{nil, keys("A"), api.ErrName},
		{[]string{""}, nil, api.ErrName},
		{nil, []string{""}, api.ErrName},
		{keys("abcdefg"), nil, api.ErrName},
		{nil, keys("a b c d e1"), api.ErrName},
		{keys("a a"), nil, api.ErrName},
		{nil, keys("a a"), api.ErrName},
		{keys("a b c d a"), nil, api.ErrName},
		{nil, keys("a b c d d"), api.ErrName},
		// What is wrong with Reads is told ahead of what is wrong with Writes.
		{keys("A"), keys("a b c d e f"), api.ErrName},
		{keys("a b c d e f"), keys("A"), api.ErrMany},
	} {
		if got := Wrong(api.Deed{Reads: c.reads, Writes: c.writes}); got != c.want {
			t.Errorf("%q, %q: %d, not %d", c.reads, c.writes, got, c.want)
		}
	}
}

func TestWrongCodeLength(t *testing.T) {
	for n := range 3 * api.MaxCode {
		want := api.OK
		if n > api.MaxCode {
			want = api.ErrMany
		}
		if got := Wrong(of(many(n)...)); got != want {
			t.Errorf("%d instructions: %d, not %d", n, got, want)
		}
	}
}

func TestWrongOrder(t *testing.T) {
	bad := slices.Repeat([]api.Instr{{Kind: 77}}, api.MaxCode+1)
	for _, c := range []struct {
		name string
		d    api.Deed
		want api.Errno
	}{
		{"keys ahead of how many", api.Deed{Writes: keys("A"), Code: bad}, api.ErrName},
		{"how many ahead of what they are", of(bad...), api.ErrMany},
		{"the first one ahead", of(load(0, "c"), api.Instr{Kind: 77}), api.ErrKey},
		{"the first one that is wrong", of(set(0, 1), set(0, most+1), api.Instr{}), api.ErrRange},
		{"the last one", of(append(many(api.MaxCode-1), fail(4))...), api.ErrRange},
		{"kind ahead of range", of(api.Instr{Kind: 10, A: 4, Key: "z"}), api.ErrKind},
		{"range ahead of form", of(api.Instr{Kind: api.InConst, A: 4, Key: "b"}), api.ErrRange},
		{"number ahead of form", of(api.Instr{Kind: api.InFail, N: 1, Key: "b"}), api.ErrRange},
		{"range ahead of key", of(load(4, "z")), api.ErrRange},
		{"number ahead of key", of(api.Instr{Kind: api.InStore, N: 1, Key: "z"}), api.ErrRange},
	} {
		if got := Wrong(c.d); got != c.want {
			t.Errorf("%s: %d, not %d", c.name, got, c.want)
		}
	}
}

func TestWrongKind(t *testing.T) {
	for _, kind := range []int{0, -1, 10, 11, math.MaxInt, math.MinInt} {
		if got := Wrong(of(api.Instr{Kind: kind})); got != api.ErrKind {
			t.Errorf("kind %d: %d", kind, got)
		}
	}
}

// rightOf answers an instruction of each kind that is right in of, if one
// stands behind it.
func rightOf() []api.Instr {
	return []api.Instr{load(0, "a"), set(0, 5), add(0, 0), sub(0, 0), mul(0, 0), store(0, "c"), drop("c"), skip(0, 1), fail(0)}
}

func TestWrongRegisters(t *testing.T) {
	hasB := []int{api.InAdd, api.InSub, api.InMul}
	for _, in := range rightOf() {
		for _, n := range []int{math.MinInt, -1, 0, 1, 2, 3, 4, 5, math.MaxInt} {
			register := 0 <= n && n < 4
			a, b := in, in
			a.A, b.B = n, n
			checkRange(t, a, n == 0 || register && in.Kind != api.InDrop)
			checkRange(t, b, n == 0 || register && slices.Contains(hasB, in.Kind))
		}
	}
}

func TestWrongNumbers(t *testing.T) {
	for _, in := range rightOf() {
		for _, n := range []int{math.MinInt, -most - 1, -most, -1, 0, 1, 2, most, most + 1, math.MaxInt} {
			in.N = n
			want := n == 0
			if in.Kind == api.InConst {
				want = n != math.MinInt && n != -most-1 && n != most+1 && n != math.MaxInt
			}
			if in.Kind == api.InSkip {
				want = n == 1
			}
			checkRange(t, in, want)
		}
	}
}

// checkRange holds Wrong of a deed with in, and one behind it, against right.
func checkRange(t *testing.T, in api.Instr, right bool) {
	t.Helper()
	want := api.ErrRange
	if right {
		want = api.OK
	}
	if got := Wrong(of(in, set(0, 1))); got != want {
		t.Errorf("%+v: %d, not %d", in, got, want)
	}
}

// A skip may lead to the end, and not beyond it, wherever it stands.
func TestWrongSkips(t *testing.T) {
	for ahead := range api.MaxCode {
		for behind := range api.MaxCode - ahead {
			for n := -1; n <= api.MaxCode+1; n++ {
				code := slices.Concat(many(ahead), []api.Instr{skip(0, n)}, many(behind))
				want := api.ErrRange
				if 1 <= n && n <= behind {
					want = api.OK
				}
				if got := Wrong(of(code...)); got != want {
					t.Errorf("skip %d with %d behind it: %d, not %d", n, behind, got, want)
				}
			}
		}
	}
}

func TestWrongInstrKeys(t *testing.T) {
	for _, in := range rightOf() {
		for _, key := range []string{"", "a", "b", "c", "d", "A", "bb", "\xff"} {
			in.Key = key
			want := api.OK
			switch in.Kind {
			case api.InLoad:
				if key != "a" && key != "b" {
					want = api.ErrKey
				}
			case api.InStore, api.InDrop:
				if key != "b" && key != "c" {
					want = api.ErrKey
				}
			default:
				if key != "" {
					want = api.ErrForm
				}
			}
			if got := Wrong(of(in, set(0, 1))); got != want {
				t.Errorf("%+v: %d, not %d", in, got, want)
			}
		}
	}
}

// unlike answers deeds of which no two are the same.
func unlike() []api.Deed {
	return []api.Deed{
		{},
		{Reads: keys("a")},
		{Writes: keys("a")},
		{Reads: keys("a b")},
		{Reads: keys("b a")},
		{Reads: []string{""}},
		{Reads: keys("a"), Writes: keys("a")},
		{Code: []api.Instr{{}}},
		{Code: []api.Instr{{}, {}}},
		{Code: []api.Instr{{Kind: 1}}},
		{Code: []api.Instr{{A: 1}}},
		{Code: []api.Instr{{B: 1}}},
		{Code: []api.Instr{{N: 1}}},
		{Code: []api.Instr{{Key: "a"}}},
		of(),
		of(set(0, 1), fail(0)),
		of(fail(0), set(0, 1)),
	}
}

func TestSame(t *testing.T) {
	for i, a := range unlike() {
		for j, b := range unlike() {
			if got := Same(a, b); got != (i == j) {
				t.Errorf("Same(%+v, %+v): %v", a, b, got)
			}
		}
	}
	if !Same(api.Deed{}, api.Deed{Reads: []string{}, Writes: []string{}, Code: []api.Instr{}}) {
		t.Error("lists without entries are not the same as nil")
	}
}

func TestOwn(t *testing.T) {
	for _, d := range unlike() {
		if got := Own(d); !Same(got, d) {
			t.Errorf("Own(%+v): %+v", d, got)
		}
	}
}

// roomy answers l with spare room behind it, and the whole of that memory.
func roomy[T any](l []T, spare T) (list, whole []T) {
	whole = append(slices.Clone(l), spare, spare)
	return whole[:len(l)], whole
}

func TestOwnSharesNothing(t *testing.T) {
	for _, d := range unlike() {
		reads, wholeReads := roomy(d.Reads, "spare")
		writes, wholeWrites := roomy(d.Writes, "spare")
		code, wholeCode := roomy(d.Code, fail(3))
		whole := api.Deed{Reads: wholeReads, Writes: wholeWrites, Code: wholeCode}
		before := Own(whole)
		blot(Own(api.Deed{Reads: reads, Writes: writes, Code: code}))
		if !Same(whole, before) {
			t.Errorf("Own(%+v) answers what it is handed", d)
		}
		got := Own(api.Deed{Reads: reads, Writes: writes, Code: code})
		blot(whole)
		if !Same(got, d) {
			t.Errorf("Own(%+v) keeps what it is handed: %+v", d, got)
		}
	}
}

// blot writes over all of d's memory, its spare room too.
func blot(d api.Deed) {
	clear(d.Reads[:cap(d.Reads)])
	clear(d.Writes[:cap(d.Writes)])
	clear(d.Code[:cap(d.Code)])
}

// One list may be handed in as both; the copy's two lists are two.
func TestOwnOfOneListTwice(t *testing.T) {
	l := keys("a b")
	got := Own(api.Deed{Reads: l, Writes: l})
	got.Reads[0] = "z"
	if got.Writes[0] != "a" || l[0] != "a" {
		t.Errorf("%q, %q", got.Writes, l)
	}
}

// looks answers a view of r, and the keys that it was asked for.
func looks(r api.Rows) (api.View, *[]string) {
	asked := new([]string)
	return func(key string) (int, bool) {
		*asked = append(*asked, key)
		return rows.Get(r, key)
	}, asked
}

// told tells what Run answers in one line.
func told(done api.Done, versions []api.Version, keys []string) string {
	var b strings.Builder
	if done.Failed {
		b.WriteString("failed ")
	}
	fmt.Fprint(&b, done.Regs)
	for i, v := range versions {
		switch {
		case i >= len(keys) || v.By != 0 || !v.Made || !v.Has && v.N != 0:
			fmt.Fprintf(&b, " ?%+v", v)
		case v.Has:
			fmt.Fprintf(&b, " %s=%d", keys[i], v.N)
		default:
			fmt.Fprintf(&b, " %s=none", keys[i])
		}
	}
	if len(keys) != len(versions) {
		fmt.Fprint(&b, " ", keys)
	}
	return b.String()
}

func TestRun(t *testing.T) {
	for _, c := range []struct {
		want string
		code []api.Instr
	}{
		{"[0 0 0 0]", nil},
		{"[0 0 0 7]", []api.Instr{set(3, 7)}},
		{"[0 2 0 0]", []api.Instr{load(1, "a")}},
		{"[2 0 0 0] c=7", []api.Instr{load(0, "a"), set(1, 5), add(1, 0), store(1, "c"), set(1, 0)}},
		{"[5 2 0 0]", []api.Instr{set(0, 3), load(1, "a"), add(0, 1)}},
		{"[1 2 0 0]", []api.Instr{set(0, 3), load(1, "a"), sub(0, 1)}},
		{"[6 2 0 0]", []api.Instr{set(0, 3), load(1, "a"), mul(0, 1)}},
		{"[6 0 16 0]", []api.Instr{set(0, 3), add(0, 0), set(2, -4), mul(2, 2)}},
		{"[0 0 0 0]", []api.Instr{load(0, "a"), sub(0, 0)}},
		// Numbers go round beyond MaxNum, towards 0 from either side.
		{"[0 1 0 0]", []api.Instr{set(0, most), set(1, 1), add(0, 1)}},
		{"[0 1 0 0]", []api.Instr{set(0, -most), set(1, 1), sub(0, 1)}},
		{fmt.Sprint("[", most-1, " ", most, " 0 0]"), []api.Instr{set(0, most), set(1, most), add(0, 1)}},
		{fmt.Sprint("[", 1-most, " ", most, " 0 0]"), []api.Instr{set(0, -most), set(1, most), sub(0, 1)}},
		{fmt.Sprint("[-1 ", -most, " 0 0]"), []api.Instr{set(0, most), set(1, -most), mul(0, 1)}},
		{"[1 0 0 0]", []api.Instr{set(0, most), mul(0, 0)}},
		{fmt.Sprint("[", most, " 0 0 0] b=", most), []api.Instr{set(0, most), store(0, "b")}},
		// Stored and dropped, a key hides what view tells of it.
		{"[0 0 3 0]", []api.Instr{load(2, "b")}},
		{"[9 0 9 0] b=9", []api.Instr{set(0, 9), store(0, "b"), load(2, "b")}},
		{"[9 0 0 0] b=none", []api.Instr{set(0, 9), store(0, "b"), drop("b"), load(2, "b")}},
		{"[0 0 0 0] b=none", []api.Instr{set(2, 4), drop("b"), load(2, "b")}},
		{"[9 0 9 0] b=9", []api.Instr{drop("b"), set(0, 9), store(0, "b"), load(2, "b")}},
		{"[8 3 0 0] b=8", []api.Instr{load(1, "b"), set(0, 9), store(0, "b"), set(0, 8), store(0, "b")}},
		{"[0 3 0 0] b=0", []api.Instr{store(0, "b"), load(0, "b"), set(1, 3)}},
		// Told as Writes has them, not as they were done.
		{"[0 0 0 0] b=none c=0", []api.Instr{store(0, "c"), drop("b")}},
		{"[0 0 0 0] b=0 c=none", []api.Instr{drop("c"), store(0, "b")}},
		{"[0 0 0 0] c=none", []api.Instr{drop("c"), drop("c")}},
		// Passed over: if A is 0 or below.
		{"[0 0 3 0]", []api.Instr{skip(0, 1), set(1, 1), set(2, 3)}},
		{"[1 1 3 0]", []api.Instr{set(0, 1), skip(0, 1), set(1, 1), set(2, 3)}},
		{"[-1 0 3 0]", []api.Instr{set(0, -1), skip(0, 1), set(1, 1), set(2, 3)}},
		{"[0 0 0 0]", []api.Instr{skip(3, 3), set(0, 1), store(0, "b"), drop("c")}},
		{"[0 0 0 0] c=none", []api.Instr{skip(3, 2), set(0, 1), store(0, "b"), drop("c")}},
		{"[0 0 6 0]", []api.Instr{skip(0, 1), skip(1, 1), set(2, 6)}},
		// Failed: if A is below 0.
		{"[0 0 0 0] b=0", []api.Instr{store(0, "b"), fail(0)}},
		{"[1 0 0 0] b=1", []api.Instr{set(0, 1), fail(0), store(0, "b")}},
		{"failed [-1 0 0 0]", []api.Instr{set(0, -1), fail(0)}},
		{"failed [5 0 -2 0]", []api.Instr{set(0, 5), store(0, "b"), drop("c"), set(2, -2), fail(2), set(2, 8)}},
		{"failed [0 0 0 -1]", []api.Instr{fail(0), set(3, -1), fail(3), fail(3)}},
		{"[-1 0 0 0] c=-1", []api.Instr{set(0, -1), skip(0, 1), fail(0), store(0, "c")}},
	} {
		d := of(c.code...)
		if e := Wrong(d); e != api.OK {
			t.Fatalf("%v is wrong: %d", c.code, e)
		}
		view, asked := looks(api.Rows{{Key: "a", N: 2}, {Key: "b", N: 3}, {Key: "c", N: 4}})
		if got := told(Run(d, view)); got != c.want {
			t.Errorf("%v: %s, not %s", c.code, got, c.want)
		}
		for _, k := range *asked {
			if !slices.Contains(d.Reads, k) {
				t.Errorf("%v: view is asked for %q", c.code, k)
			}
		}
	}
}

// What a view tells beside false is nothing, whatever it is.
func TestRunBesideFalse(t *testing.T) {
	d := of(set(0, 5), load(0, "a"))
	for _, ok := range []bool{true, false} {
		want := "[0 0 0 0]"
		if ok {
			want = "[7 0 0 0]"
		}
		if got := told(Run(d, func(string) (int, bool) { return 7, ok })); got != want {
			t.Errorf("%v: %s, not %s", ok, got, want)
		}
	}
}

// Run may be handed a view that is none, or that panics.
func TestRunWithoutView(t *testing.T) {
	d := of(set(0, 5), load(0, "a"), store(0, "c"), load(1, "b"), set(2, 6))
	for name, view := range map[string]api.View{
		"nil":    nil,
		"panics": func(string) (int, bool) { panic("no view") },
	} {
		if got := told(Run(d, view)); got != "[0 0 6 0] c=0" {
			t.Errorf("%s: %s", name, got)
		}
	}
}

// A deed that loads nothing, or what it stored, asks for nothing.
func TestRunAsksForWhatItLoads(t *testing.T) {
	for _, c := range []struct {
		code []api.Instr
		want string
	}{
		{[]api.Instr{set(0, 1), store(0, "b"), drop("c")}, ""},
		{[]api.Instr{store(0, "b"), load(0, "b")}, ""},
		{[]api.Instr{drop("b"), load(0, "b")}, ""},
		{[]api.Instr{skip(0, 1), load(0, "a")}, ""},
		{[]api.Instr{load(0, "b"), load(1, "a"), store(0, "b"), load(0, "b")}, "b a"},
	} {
		view, asked := looks(nil)
		Run(of(c.code...), view)
		if got := strings.Join(*asked, " "); got != c.want {
			t.Errorf("%v asks for %q, not %q", c.code, got, c.want)
		}
	}
}

// The order of Writes is the deed's own: no order of keys.
func TestRunInOrderOfWrites(t *testing.T) {
	names := keys("c e a d b")
	for bits := range 1 << len(names) {
		d := api.Deed{Writes: names}
		var want []string
		for i := len(names) - 1; i >= 0; i-- {
			if bits>>i&1 == 1 {
				d.Code = append(d.Code, drop(names[i]))
				want = append([]string{names[i]}, want...)
			}
		}
		_, versions, got := Run(d, nil)
		if !slices.Equal(got, want) || len(versions) != len(want) {
			t.Errorf("%q, not %q", got, want)
		}
	}
}

func TestRunSharesNothing(t *testing.T) {
	d := of(set(0, 4), store(0, "c"), drop("b"))
	reads, wholeReads := roomy(d.Reads, "spare")
	writes, wholeWrites := roomy(d.Writes, "spare")
	code, wholeCode := roomy(d.Code, fail(3))
	_, versions, keys := Run(api.Deed{Reads: reads, Writes: writes, Code: code}, nil)
	if strings.Join(append(wholeReads, wholeWrites...), " ") != "a b spare spare b c spare spare" || !slices.Equal(wholeCode, append(d.Code, fail(3), fail(3))) {
		t.Errorf("what is handed in is changed: %q %q %v", wholeReads, wholeWrites, wholeCode)
	}
	clear(wholeWrites)
	if !slices.Equal(keys, []string{"b", "c"}) {
		t.Errorf("what is handed in is kept: %q", keys)
	}
	clear(keys[:cap(keys)])
	_, again, keys := Run(d, nil)
	clear(versions[:cap(versions)])
	if !slices.Equal(keys, []string{"b", "c"}) || !reflect.DeepEqual(again, []api.Version{{Made: true}, {Made: true, Has: true, N: 4}}) {
		t.Errorf("two answers share memory: %q %+v", keys, again)
	}
}

// Of wrong deeds nothing is promised but that calls end; they answer nothing.
func TestWrongDeedsDoNotPanic(t *testing.T) {
	ds := unlike()
	for kind := -1; kind <= 11; kind++ {
		for _, n := range []int{math.MinInt, -1, 4, 1000, math.MaxInt} {
			ds = append(ds, of(api.Instr{Kind: kind, A: n}), of(api.Instr{Kind: kind, B: n}), of(api.Instr{Kind: kind, N: n}))
		}
	}
	for _, d := range ds {
		done, versions, keys := Run(d, nil)
		if Wrong(d) != api.OK && (done != api.Done{} || versions != nil || keys != nil) {
			t.Errorf("%+v: %+v %v %q", d, done, versions, keys)
		}
	}
}
