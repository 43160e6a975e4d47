package plan

import (
	"math"
	"slices"
	"strings"
	"testing"

	"rankandfile/api"
	"rankandfile/chain"
)

// of answers a right deed that reads, and writes, these keys: letters.
func of(reads, writes string) api.Deed {
	return api.Deed{Reads: letters(reads), Writes: letters(writes), Code: []api.Instr{{Kind: api.InConst, A: 1, N: 7}}}
}

func letters(s string) []string {
	var keys []string
	for i := range len(s) {
		keys = append(keys, s[i:i+1])
	}
	return keys
}

func sameDeed(a, b api.Deed) bool {
	return slices.Equal(a.Reads, b.Reads) && slices.Equal(a.Writes, b.Writes) && slices.Equal(a.Code, b.Code)
}

func sameChain(a, b api.Chain) bool {
	return a.Key == b.Key && slices.Equal(a.Versions, b.Versions)
}

func same(a, b api.Engine) bool {
	return slices.EqualFunc(a.Chains, b.Chains, sameChain) &&
		slices.EqualFunc(a.Deeds, b.Deeds, sameDeed) &&
		slices.Equal(a.State, b.State) && slices.Equal(a.Ends, b.Ends) && a.Base == b.Base
}

// none tells whether e is the zero value: beside an error nothing else is told.
func none(e api.Engine) bool {
	return len(e.Chains) == 0 && len(e.Deeds) == 0 && len(e.State) == 0 && len(e.Ends) == 0 && e.Base == 0
}

// add plans right deeds.
func add(t *testing.T, e api.Engine, l ...api.Deed) api.Engine {
	t.Helper()
	got, errno := Add(e, l)
	if errno != api.OK {
		t.Fatalf("Add of %v: %d", l, errno)
	}
	return got
}

// finish has the deed at that place be done: each of its versions is made.
func finish(e api.Engine, at int) api.Engine {
	for _, k := range e.Deeds[at].Writes {
		e.Chains = chain.Set(e.Chains, k, api.Version{By: e.Base + at, Made: true, Has: true, N: 100 + at})
	}
	e.State = slices.Clone(e.State)
	e.Ends = slices.Clone(e.Ends)
	e.State[at] = api.DeedDone
	e.Ends[at] = api.Done{Failed: at%2 == 1, Regs: [4]int{at, 1, 2, 3}}
	return e
}

// forget has the first n deeds, which are done, be gone.
func forget(e api.Engine, n int) api.Engine {
	return api.Engine{
		Chains: chain.Clear(e.Chains, e.Base+n),
		Deeds:  e.Deeds[n:],
		State:  e.State[n:],
		Ends:   e.Ends[n:],
		Base:   e.Base + n,
	}
}

func TestNew(t *testing.T) {
	const m = api.MaxNum
	for _, r := range []api.Rows{
		nil,
		{},
		{{Key: "a", N: 1}},
		{{Key: "a"}},
		{{Key: "a", N: -m}, {Key: "aa", N: 3}, {Key: "zzzzzz", N: m}},
	} {
		got := New(r)
		if want := (api.Engine{Chains: chain.Of(r)}); !same(got, want) {
			t.Errorf("New(%v): %v, not %v", r, got, want)
		}
		if back, ok := chain.Rows(got.Chains, 0); !ok || !slices.Equal(back, r) {
			t.Errorf("New(%v) has %v %v", r, back, ok)
		}
	}
}

func TestNewSharesNothing(t *testing.T) {
	r := api.Rows{{Key: "a", N: 1}, {Key: "b", N: 2}, {Key: "spare", N: 3}}
	got, want := New(r[:2]), New(slices.Clone(r[:2]))
	clear(r)
	if !same(got, want) {
		t.Errorf("%v, not %v", got, want)
	}
}

func TestAdd(t *testing.T) {
	has := api.Version{By: -1, Made: true, Has: true, N: 1}
	e := New(api.Rows{{Key: "b", N: 1}})
	e = add(t, e, of("b", "bc"), of("", "ca"))
	want := api.Engine{
		Chains: []api.Chain{
			{Key: "a", Versions: []api.Version{{By: 1}}},
			{Key: "b", Versions: []api.Version{has, {By: 0}}},
			{Key: "c", Versions: []api.Version{{By: 0}, {By: 1}}},
		},
		Deeds: []api.Deed{of("b", "bc"), of("", "ca")},
		State: []int{api.DeedWaits, api.DeedWaits},
		Ends:  make([]api.Done, 2),
	}
	if !same(e, want) {
		t.Errorf("%v, not %v", e, want)
	}
	e = add(t, e, of("d", "b"))
	want.Chains[1].Versions = append(want.Chains[1].Versions, api.Version{By: 2})
	want.Deeds = append(want.Deeds, of("d", "b"))
	want.State = append(want.State, api.DeedWaits)
	want.Ends = append(want.Ends, api.Done{})
	if !same(e, want) {
		t.Errorf("one more: %v, not %v", e, want)
	}
}

// Deeds that are done, and forgotten, count on: numbers are never given twice.
func TestAddBehindDeedsThatAreDone(t *testing.T) {
	e := add(t, New(nil), of("", "a"), of("a", "b"), of("b", "a"))
	e = finish(finish(e, 0), 1)
	done := add(t, e, of("", "a"))
	want := []api.Version{{By: 0, Made: true, Has: true, N: 100}, {By: 2}, {By: 3}}
	if !slices.Equal(done.Chains[0].Versions, want) || !slices.Equal(done.State, []int{1, 1, 0, 0}) {
		t.Errorf("done: %v", done)
	}
	if done.Ends[1] != e.Ends[1] || done.Ends[3] != (api.Done{}) || done.Base != 0 {
		t.Errorf("done: %v", done)
	}
	gone := add(t, forget(e, 2), of("", "ab"))
	if !slices.Equal(gone.Chains[0].Versions, want) {
		t.Errorf("gone: %v", gone)
	}
	if gone.Base != 2 || len(gone.Deeds) != 2 || len(gone.State) != 2 || len(gone.Ends) != 2 {
		t.Errorf("gone: %v", gone)
	}
	all := add(t, forget(finish(e, 2), 3), of("", "c"))
	if last := all.Chains[len(all.Chains)-1]; last.Key != "c" || !slices.Equal(last.Versions, []api.Version{{By: 3}}) {
		t.Errorf("all are gone: %v", all)
	}
}

// All at once, and one by one, is the same; a deed that writes nothing has no
// version, and a number all the same.
func TestAddAtOnceOrOneByOne(t *testing.T) {
	eachPlan(3, func(l []api.Deed) {
		for _, r := range []api.Rows{nil, {{Key: "a", N: 4}, {Key: "c", N: 5}}} {
			e := New(r)
			for _, d := range l {
				e = add(t, e, d)
			}
			if at := add(t, New(r), l...); !same(at, e) {
				t.Fatalf("%v at once: %v, not %v", l, at, e)
			}
			checkChains(t, e, r, l)
		}
	})
}

// checkChains goes key by key, in the words of the chapter.
func checkChains(t *testing.T, e api.Engine, r api.Rows, l []api.Deed) {
	t.Helper()
	var want []api.Chain
	for _, k := range []string{"a", "b", "c"} {
		var versions []api.Version
		for _, p := range r {
			if p.Key == k {
				versions = append(versions, api.Version{By: -1, Made: true, Has: true, N: p.N})
			}
		}
		for i, d := range l {
			if slices.Contains(d.Writes, k) {
				versions = append(versions, api.Version{By: i})
			}
		}
		if len(versions) > 0 {
			want = append(want, api.Chain{Key: k, Versions: versions})
		}
	}
	whole := api.Engine{Chains: want, Deeds: l, State: make([]int, len(l)), Ends: make([]api.Done, len(l))}
	if !same(e, whole) {
		t.Fatalf("%v, not %v", e, whole)
	}
}

func TestAddNothing(t *testing.T) {
	for _, e := range []api.Engine{New(nil), New(api.Rows{{Key: "a", N: 1}}), finish(add(t, New(nil), of("", "a"), of("a", "")), 0)} {
		for _, l := range [][]api.Deed{nil, {}} {
			if got := add(t, e, l...); !same(got, e) {
				t.Errorf("%v, not %v", got, e)
			}
		}
	}
}

func TestAddTheEmptyDeed(t *testing.T) {
	got := add(t, New(nil), api.Deed{}, api.Deed{Reads: []string{}, Writes: []string{}, Code: []api.Instr{}})
	want := api.Engine{Deeds: make([]api.Deed, 2), State: make([]int, 2), Ends: make([]api.Done, 2)}
	if !same(got, want) {
		t.Errorf("%v, not %v", got, want)
	}
}

// More deeds than a batch of a log has may be planned at once.
func TestAddMany(t *testing.T) {
	n := 10 * api.MaxBatch
	e := add(t, New(nil), slices.Repeat([]api.Deed{of("a", "a")}, n)...)
	if len(e.Deeds) != n || len(e.Chains) != 1 || len(e.Chains[0].Versions) != n {
		t.Fatalf("%d deeds, chains %v", len(e.Deeds), e.Chains)
	}
	for at := range n {
		var want []int
		if at > 0 {
			want = []int{at - 1}
		}
		if got := Needs(e, at); !slices.Equal(got, want) {
			t.Errorf("Needs(%d): %v", at, got)
		}
	}
}

func TestAddWrongDeeds(t *testing.T) {
	right := of("a", "b")
	name := api.Deed{Reads: []string{"A"}}
	many := api.Deed{Code: make([]api.Instr, api.MaxCode+1)}
	kind := api.Deed{Code: []api.Instr{{Kind: 99}}}
	key := api.Deed{Code: []api.Instr{{Kind: api.InStore, Key: "a"}}}
	twice := api.Deed{Writes: []string{"a", "a"}}
	for _, c := range []struct {
		l    []api.Deed
		want api.Errno
	}{
		{[]api.Deed{name}, api.ErrName},
		{[]api.Deed{many}, api.ErrMany},
		{[]api.Deed{kind}, api.ErrKind},
		{[]api.Deed{key}, api.ErrKey},
		{[]api.Deed{twice}, api.ErrName},
		{[]api.Deed{right, right, kind}, api.ErrKind},
		{[]api.Deed{right, key, right, name}, api.ErrKey},
		{[]api.Deed{many, name, kind}, api.ErrMany},
		{[]api.Deed{name, many}, api.ErrName},
	} {
		for _, e := range []api.Engine{New(nil), forget(finish(add(t, New(api.Rows{{Key: "a", N: 1}}), right, right), 0), 1)} {
			before := deep(e)
			if got, errno := Add(e, c.l); errno != c.want || !none(got) {
				t.Errorf("Add of %v: %v %d, not %d", c.l, got, errno, c.want)
			}
			if !same(e, before) {
				t.Errorf("Add of %v changes %v: %v", c.l, before, e)
			}
		}
	}
}

func TestKeys(t *testing.T) {
	for _, c := range []struct{ reads, writes, want string }{
		{"", "", ""},
		{"a", "", "a"},
		{"", "a", "a"},
		{"a", "a", "a"},
		{"ba", "ab", "ba"},
		{"c", "bca", "cba"},
		{"db", "ca", "dbca"},
		{"edcba", "jihgf", "edcbajihgf"},
		{"abcde", "edcba", "abcde"},
	} {
		if got := Keys(of(c.reads, c.writes)); !slices.Equal(got, letters(c.want)) {
			t.Errorf("Keys of %q and %q: %q", c.reads, c.writes, got)
		}
	}
	if got := Keys(api.Deed{Reads: []string{}, Writes: []string{}}); len(got) != 0 {
		t.Errorf("Keys of none: %q", got)
	}
	// One key begins another, and is not it.
	if got := Keys(api.Deed{Reads: []string{"ab"}, Writes: []string{"a", "abc", "b"}}); !slices.Equal(got, []string{"ab", "a", "abc", "b"}) {
		t.Errorf("%q", got)
	}
}

func TestKeysSharesNothing(t *testing.T) {
	reads := []string{"a", "b", "spare", "more"}
	writes := []string{"c", "a", "spare"}
	d := api.Deed{Reads: reads[:2], Writes: writes[:2]}
	got := Keys(d)
	if !slices.Equal(reads, []string{"a", "b", "spare", "more"}) || !slices.Equal(writes, []string{"c", "a", "spare"}) {
		t.Errorf("changed: %q %q", reads, writes)
	}
	clear(got[:cap(got)])
	if reads[0] != "a" || writes[0] != "c" {
		t.Errorf("answered what was handed in: %q %q", reads, writes)
	}
	got = Keys(d)
	clear(reads)
	clear(writes)
	if !slices.Equal(got, []string{"a", "b", "c"}) {
		t.Errorf("kept: %q", got)
	}
}

func TestNeeds(t *testing.T) {
	e := add(t, New(api.Rows{{Key: "x", N: 1}}),
		of("", "a"),   // 0
		of("x", "b"),  // 1
		of("ab", "c"), // 2: what it reads
		of("", "b"),   // 3: what it writes, too
		of("cba", ""), // 4: each once, rising, not as its keys stand
		of("xy", "z"), // 5: nobody makes it
		of("ba", "a"), // 6: nobody needs one that only reads
	)
	for at, want := range [][]int{nil, nil, {0, 1}, {1}, {0, 2, 3}, nil, {0, 3}} {
		if got := Needs(e, at); !slices.Equal(got, want) {
			t.Errorf("Needs(%d): %v, not %v", at, got, want)
		}
	}
	e = finish(e, 0)
	for at, want := range [][]int{nil, nil, {1}, {1}, {2, 3}, nil, {3}} {
		if got := Needs(e, at); !slices.Equal(got, want) {
			t.Errorf("0 is done: Needs(%d): %v, not %v", at, got, want)
		}
	}
	e = forget(e, 1)
	for at, want := range [][]int{nil, {0}, {0}, {1, 2}, nil, {2}} {
		if got := Needs(e, at); !slices.Equal(got, want) {
			t.Errorf("0 is forgotten: Needs(%d): %v, not %v", at, got, want)
		}
	}
}

// A deed that writes two keys that another one uses is needed once.
func TestNeedsTellsEachOnce(t *testing.T) {
	e := add(t, New(nil), of("", "abcde"), of("abc", "dea"))
	if got := Needs(e, 1); !slices.Equal(got, []int{0}) {
		t.Errorf("%v", got)
	}
}

func TestNeedsWhereThereIsNoDeed(t *testing.T) {
	e := add(t, New(nil), of("", "a"), of("a", "a"))
	for _, x := range []api.Engine{New(nil), {}, e, forget(finish(e, 0), 1)} {
		for _, at := range []int{math.MinInt, -1, len(x.Deeds), len(x.Deeds) + 1, math.MaxInt} {
			if got := Needs(x, at); len(got) != 0 {
				t.Errorf("Needs(%d) of %v: %v", at, x, got)
			}
		}
	}
}

// eachPlan calls f for all lists of n deeds of a small kind.
func eachPlan(n int, f func(l []api.Deed)) {
	kinds := []api.Deed{of("", ""), of("a", ""), of("", "a"), of("a", "a"), of("b", "a"), of("", "ba"), of("ab", "c"), of("c", "b"), of("cb", "abc")}
	var grow func(l []api.Deed)
	grow = func(l []api.Deed) {
		if len(l) == n {
			f(slices.Clone(l))
			return
		}
		for _, d := range kinds {
			grow(append(l[:len(l):len(l)], d))
		}
	}
	grow(nil)
}

// needed looks at deeds alone, not at chains: one is needed if it waits, and
// writes a key that this one uses, and nobody between them writes it.
func needed(l []api.Deed, done []bool, at int) []int {
	var places []int
	for i := range at {
		for _, k := range slices.Concat(l[at].Reads, l[at].Writes) {
			writes := func(d api.Deed) bool { return slices.Contains(d.Writes, k) }
			if !done[i] && writes(l[i]) && !slices.ContainsFunc(l[i+1:at], writes) && !slices.Contains(places, i) {
				places = append(places, i)
			}
		}
	}
	return places
}

// Whatever is done, and whatever of that is forgotten, those are needed that
// deeds say.
func TestNeedsOfAllPlans(t *testing.T) {
	const n = 4
	eachPlan(n, func(l []api.Deed) {
		whole := add(t, New(api.Rows{{Key: "b", N: 2}}), l...)
		for mask := range 1 << n {
			e, done := whole, make([]bool, n)
			for i := range n {
				if mask>>i&1 == 1 {
					e, done[i] = finish(e, i), true
				}
			}
			for gone := 0; gone == 0 || gone <= n && done[gone-1]; gone++ {
				left := forget(e, gone)
				for at := range left.Deeds {
					want := needed(l[gone:], done[gone:], at)
					if got := Needs(left, at); !slices.Equal(got, want) {
						t.Fatalf("%v, done %v, gone %d: Needs(%d): %v, not %v", l, done, gone, at, got, want)
					}
				}
			}
		}
	})
}

// deep answers a copy, made without Own.
func deep(e api.Engine) api.Engine {
	out := api.Engine{State: slices.Clone(e.State), Ends: slices.Clone(e.Ends), Base: e.Base}
	for _, c := range e.Chains {
		out.Chains = append(out.Chains, api.Chain{Key: c.Key, Versions: slices.Clone(c.Versions)})
	}
	for _, d := range e.Deeds {
		out.Deeds = append(out.Deeds, api.Deed{Reads: slices.Clone(d.Reads), Writes: slices.Clone(d.Writes), Code: slices.Clone(d.Code)})
	}
	return out
}

// room answers l with spare room behind it, in which x stands.
func room[T any](l []T, x T) []T {
	return append(slices.Clone(l), x, x, x)[:len(l)]
}

// roomy answers e with spare room behind each of its lists.
func roomy(e api.Engine) api.Engine {
	out := deep(e)
	for i, c := range out.Chains {
		out.Chains[i].Versions = room(c.Versions, api.Version{By: 99, N: 99})
	}
	out.Deeds = roomyDeeds(out.Deeds)
	out.Chains = room(out.Chains, api.Chain{Key: "spare"})
	out.State = room(out.State, 99)
	out.Ends = room(out.Ends, api.Done{Failed: true})
	return out
}

func roomyDeeds(l []api.Deed) []api.Deed {
	var out []api.Deed
	for _, d := range l {
		out = append(out, api.Deed{
			Reads:  room(d.Reads, "spare"),
			Writes: room(d.Writes, "spare"),
			Code:   room(d.Code, api.Instr{Kind: 99}),
		})
	}
	return room(out, api.Deed{Reads: []string{"spare"}})
}

// wholeOf answers a copy of e, with all the spare room that it has.
func wholeOf(e api.Engine) api.Engine {
	out := api.Engine{Deeds: wholeDeeds(e.Deeds), State: e.State[:cap(e.State)], Ends: e.Ends[:cap(e.Ends)], Base: e.Base}
	for _, c := range e.Chains[:cap(e.Chains)] {
		out.Chains = append(out.Chains, api.Chain{Key: c.Key, Versions: c.Versions[:cap(c.Versions)]})
	}
	return deep(out)
}

func wholeDeeds(l []api.Deed) []api.Deed {
	var out []api.Deed
	for _, d := range l[:cap(l)] {
		out = append(out, api.Deed{
			Reads:  slices.Clone(d.Reads[:cap(d.Reads)]),
			Writes: slices.Clone(d.Writes[:cap(d.Writes)]),
			Code:   slices.Clone(d.Code[:cap(d.Code)]),
		})
	}
	return out
}

// blot writes over all of e, its spare room too.
func blot(e api.Engine) {
	for _, c := range e.Chains[:cap(e.Chains)] {
		for i := range c.Versions[:cap(c.Versions)] {
			c.Versions[:cap(c.Versions)][i] = api.Version{By: 77, N: 77}
		}
	}
	blotDeeds(e.Deeds)
	clear(e.Chains[:cap(e.Chains)])
	for i := range e.State[:cap(e.State)] {
		e.State[:cap(e.State)][i] = 77
	}
	for i := range e.Ends[:cap(e.Ends)] {
		e.Ends[:cap(e.Ends)][i] = api.Done{Failed: true, Regs: [4]int{77}}
	}
}

func blotDeeds(l []api.Deed) {
	for _, d := range l[:cap(l)] {
		clear(d.Reads[:cap(d.Reads)])
		clear(d.Writes[:cap(d.Writes)])
		clear(d.Code[:cap(d.Code)])
	}
	clear(l[:cap(l)])
}

// engines are some of all kinds: without deeds, with some that wait, that are
// done, and that are gone.
func engines(t *testing.T) []api.Engine {
	l := []api.Deed{of("a", "ab"), of("ca", "c"), of("", "a"), of("b", "")}
	some := add(t, New(api.Rows{{Key: "a", N: 1}, {Key: "d", N: 4}}), l...)
	begun := finish(finish(some, 0), 2)
	all := finish(finish(begun, 1), 3)
	return []api.Engine{{}, New(nil), New(api.Rows{{Key: "b", N: 3}}), some, begun, forget(begun, 1), all, forget(all, 4)}
}

func TestOwn(t *testing.T) {
	for _, e := range engines(t) {
		if got := Own(e); !same(got, e) {
			t.Errorf("Own(%v): %v", e, got)
		}
	}
}

// calls are those that answer engines, and are handed one, and deeds.
func calls() map[string]func(e api.Engine, l []api.Deed) api.Engine {
	added := func(e api.Engine, l []api.Deed) api.Engine {
		got, _ := Add(e, l)
		return got
	}
	return map[string]func(e api.Engine, l []api.Deed) api.Engine{
		"Own":         func(e api.Engine, l []api.Deed) api.Engine { return Own(e) },
		"Add":         added,
		"Add of none": func(e api.Engine, l []api.Deed) api.Engine { return added(e, l[:0]) },
		"Add of wrong ones": func(e api.Engine, l []api.Deed) api.Engine {
			return added(e, append(slices.Clone(l), api.Deed{Reads: []string{"A"}}))
		},
	}
}

func TestNothingIsShared(t *testing.T) {
	planned := []api.Deed{of("ab", "ca"), of("", "ed"), of("c", "")}
	for name, call := range calls() {
		for _, plain := range engines(t) {
			e, l := roomy(plain), roomyDeeds(planned)
			before, deeds := wholeOf(e), wholeDeeds(l)
			unchanged := func(what string) {
				t.Helper()
				if !same(wholeOf(e), before) || !slices.EqualFunc(wholeDeeds(l), deeds, sameDeed) {
					t.Fatalf("%s %s: %v %v, not %v %v", name, what, wholeOf(e), wholeDeeds(l), before, deeds)
				}
			}
			got, want := call(e, l), call(deep(plain), planned)
			unchanged("changes what it is handed")
			if !same(got, want) {
				t.Fatalf("%s looks at the spare room: %v, not %v", name, got, want)
			}
			blot(got)
			unchanged("answers what it is handed")
			got = call(e, l)
			blot(e)
			blotDeeds(l)
			if !same(got, want) {
				t.Fatalf("%s keeps what it is handed: %v, not %v", name, got, want)
			}
		}
	}
}

// One deed that is handed in twice is two deeds, apart from each other.
func TestDeedsOfAnAnswerAreApart(t *testing.T) {
	d := of("ab", "ba")
	e := add(t, New(nil), d, d)
	clear(e.Deeds[0].Reads)
	clear(e.Deeds[0].Writes)
	clear(e.Deeds[0].Code)
	if !sameDeed(e.Deeds[1], of("ab", "ba")) || !sameDeed(d, of("ab", "ba")) {
		t.Errorf("%v %v", e.Deeds[1], d)
	}
}

// Two engines that grow out of one do not write into each other.
func TestTwoGrowOutOfOne(t *testing.T) {
	for _, e := range engines(t) {
		one := add(t, e, of("a", "b"))
		before := deep(one)
		other := add(t, e, of("", "ab"), of("b", ""))
		if !same(one, before) || same(one, other) {
			t.Errorf("%v, not %v", one, before)
		}
	}
}

func TestNeedsOnlyReads(t *testing.T) {
	for _, plain := range engines(t) {
		e := roomy(plain)
		before := wholeOf(e)
		for at := range plain.Deeds {
			got, want := Needs(e, at), Needs(deep(plain), at)
			if !slices.Equal(got, want) {
				t.Errorf("Needs(%d) looks at the spare room: %v, not %v", at, got, want)
			}
			clear(got[:cap(got)])
		}
		if now := wholeOf(e); !same(now, before) {
			t.Errorf("changed: %v, not %v", now, before)
		}
	}
}

// Of what are no engines, rows or deeds nothing is promised but that calls end,
// and answer the same again.
func TestWrongInputsDoNotPanic(t *testing.T) {
	long := strings.Repeat("k", 1000)
	odd := []api.Deed{
		{Reads: []string{"", "A", long, "a", "a"}, Writes: []string{"a", "a", "\xff", ""}},
		{Code: []api.Instr{{Kind: -1, A: math.MaxInt, N: math.MinInt, Key: long}}},
		of("a", "a"),
	}
	chains := []api.Chain{{Key: "b", Versions: []api.Version{{By: 9}, {By: -9}}}, {Key: "a"}, {Key: "", Versions: []api.Version{{By: math.MinInt}}}}
	for _, e := range []api.Engine{
		{Deeds: odd},
		{Chains: chains, Deeds: odd, State: []int{-1}, Base: math.MaxInt},
		{Chains: chains, Deeds: odd[:1], State: []int{5, 6, 7}, Ends: make([]api.Done, 9), Base: math.MinInt},
		{State: []int{1, 0}, Base: -3},
	} {
		if !same(Own(e), e) {
			t.Errorf("Own(%v): %v", e, Own(e))
		}
		for at := -1; at <= len(e.Deeds); at++ {
			if a, b := Needs(e, at), Needs(e, at); !slices.Equal(a, b) {
				t.Errorf("Needs(%v, %d): %v, then %v", e, at, a, b)
			}
		}
		for i := range odd {
			a, errno := Add(e, odd[i:])
			b, again := Add(e, odd[i:])
			if errno != again || !same(a, b) {
				t.Errorf("Add(%v, %v) differs", e, odd[i:])
			}
		}
	}
	for _, d := range odd {
		if a, b := Keys(d), Keys(d); !slices.Equal(a, b) {
			t.Errorf("Keys(%v): %q, then %q", d, a, b)
		}
	}
	for _, r := range []api.Rows{{{}}, {{Key: "b"}, {Key: "a"}}, {{Key: long, N: math.MinInt}, {Key: long}}} {
		if got := New(r); len(got.Chains) != len(r) {
			t.Errorf("New(%v): %v", r, got)
		}
	}
}
