package run

import (
	"math"
	"slices"
	"strings"
	"testing"

	"rankandfile/api"
	"rankandfile/chain"
	"rankandfile/deed"
	"rankandfile/plain"
	"rankandfile/plan"
	"rankandfile/text"
)

const (
	more    = "reads a; writes a; load r0 a; const r1 1; add r0 r1; store r0 a"
	pay     = "reads a b; writes a b; load r0 a; const r1 2; sub r0 r1; store r0 a; fail r0; load r2 b; add r2 r1; store r2 b"
	dropA   = "reads; writes a; drop a"
	noughtB = "reads; writes b; store r0 b"
	fiveC   = "reads; writes c; const r0 5; store r0 c"
	swap    = "reads a b; writes b a; load r0 a; load r1 b; store r1 a; store r0 b"
	ifA     = "reads a; writes c; load r0 a; skip r0 1; store r0 c; const r3 -7"
	looks   = "reads a b c; writes; load r0 a; load r1 b; load r2 c"
	move    = "reads a; writes b a; load r0 a; store r0 b; drop a"
	idle    = "reads; writes a c"
	none    = "reads; writes"
)

func texts() []string {
	return []string{more, pay, dropA, noughtB, fiveC, swap, ifA, looks, move, idle, none}
}

func read(t *testing.T, s string) api.Deed {
	t.Helper()
	d, errno := text.Parse(s)
	if errno != api.OK {
		t.Fatalf("%q is no deed: %d", s, errno)
	}
	return d
}

func readAll(t *testing.T, texts ...string) []api.Deed {
	t.Helper()
	var l []api.Deed
	for _, s := range texts {
		l = append(l, read(t, s))
	}
	return l
}

// of answers an engine of r, with these deeds, that wait.
func of(t *testing.T, r api.Rows, l ...api.Deed) api.Engine {
	t.Helper()
	e, errno := plan.Add(plan.New(r), l)
	if errno != api.OK {
		t.Fatalf("Add of %v: %d", l, errno)
	}
	return e
}

// goes does the deeds at these places, one behind the other.
func goes(t *testing.T, e api.Engine, places ...int) api.Engine {
	t.Helper()
	for _, at := range places {
		now, errno := Go(e, at)
		if errno != api.OK {
			t.Fatalf("Go(%v, %d): %d", e, at, errno)
		}
		e = now
	}
	return e
}

func same(a, b api.Engine) bool {
	sameChain := func(x, y api.Chain) bool { return x.Key == y.Key && slices.Equal(x.Versions, y.Versions) }
	return slices.EqualFunc(a.Chains, b.Chains, sameChain) && slices.EqualFunc(a.Deeds, b.Deeds, deed.Same) &&
		slices.Equal(a.State, b.State) && slices.Equal(a.Ends, b.Ends) && a.Base == b.Base
}

// forget has the first n deeds, which are done, be gone.
func forget(e api.Engine, n int) api.Engine {
	return api.Engine{
		Chains: chain.Clear(e.Chains, e.Base+n),
		Deeds:  e.Deeds[n:],
		State:  e.State[n:],
		Ends:   e.Ends[n:],
		Base:   e.Base + n,
	}
}

func has(by, n int) api.Version  { return api.Version{By: by, Made: true, Has: true, N: n} }
func nothing(by int) api.Version { return api.Version{By: by, Made: true} }
func waits(by int) api.Version   { return api.Version{By: by} }

func TestOneIsReadyThenTheOther(t *testing.T) {
	e := of(t, nil, readAll(t, more, more)...)
	for _, want := range [][]int{{0}, {1}, nil} {
		got := Ready(e)
		if !slices.Equal(got, want) {
			t.Fatalf("Ready: %v, not %v", got, want)
		}
		e = goes(t, e, got...)
	}
	want := []api.Version{has(0, 1), has(1, 2)}
	if !slices.Equal(e.Chains[0].Versions, want) || !slices.Equal(e.State, []int{1, 1}) {
		t.Errorf("%v", e)
	}
}

func TestReady(t *testing.T) {
	e := of(t, api.Rows{{Key: "a", N: 1}}, readAll(t, more, fiveC, ifA, pay, more, none, looks, dropA)...)
	for _, c := range []struct {
		done int
		want []int
	}{
		{-1, []int{0, 1, 5}},
		{1, []int{0, 5}},
		{5, []int{0}},
		{0, []int{2, 3}},
		{3, []int{2, 4}},
		{2, []int{4}},
		{4, []int{6, 7}},
		{7, []int{6}},
		{6, nil},
	} {
		if c.done >= 0 {
			e = goes(t, e, c.done)
		}
		if got := Ready(e); !slices.Equal(got, c.want) {
			t.Errorf("%d done: Ready: %v, not %v", c.done, got, c.want)
		}
	}
}

func TestReadyOfNone(t *testing.T) {
	for _, e := range []api.Engine{{}, plan.New(nil), plan.New(api.Rows{{Key: "a", N: 1}})} {
		if got := Ready(e); len(got) != 0 {
			t.Errorf("Ready(%v): %v", e, got)
		}
		if got := All(e, []int{1, 2}); !same(got, e) {
			t.Errorf("All(%v): %v", e, got)
		}
	}
}

// A deed that only writes a key waits for the one that writes it ahead: it may
// have to hand on what that one makes.
func TestWhoOnlyWritesWaits(t *testing.T) {
	e := of(t, nil, readAll(t, more, dropA, idle)...)
	for at := 1; at < 3; at++ {
		if got, errno := Go(e, at); errno != api.ErrWait || !same(got, e) {
			t.Errorf("Go(%d): %d %v", at, errno, got)
		}
	}
}

// A reader does not hold up who writes behind it, and sees nothing of that.
func TestWhoComesLaterChangesNothingAhead(t *testing.T) {
	e := of(t, api.Rows{{Key: "a", N: 7}}, readAll(t, looks, more, looks, dropA, looks)...)
	e = goes(t, e, 1, 3, 4, 2, 0)
	want := []api.Done{{Regs: [4]int{7}}, {Regs: [4]int{8, 1}}, {Regs: [4]int{8}}, {}, {}}
	if !slices.Equal(e.Ends, want) {
		t.Errorf("%v, not %v", e.Ends, want)
	}
}

func TestGo(t *testing.T) {
	a1, b2 := api.Pair{Key: "a", N: 1}, api.Pair{Key: "b", N: 2}
	chains := func(keys string, versions ...api.Version) []api.Chain {
		var l []api.Chain
		for i, v := range versions {
			key := keys[i : i+1]
			if i > 0 && key == keys[i-1:i] {
				l[len(l)-1].Versions = append(l[len(l)-1].Versions, v)
			} else {
				l = append(l, api.Chain{Key: key, Versions: []api.Version{v}})
			}
		}
		return l
	}
	for _, c := range []struct {
		name string
		r    api.Rows
		d    string
		want []api.Chain
		end  api.Done
	}{
		{"nothing", api.Rows{a1}, none, chains("a", has(-1, 1)), api.Done{}},
		{"stored, and nothing there", nil, more, chains("a", has(0, 1)), api.Done{Regs: [4]int{1, 1}}},
		{"stored, and something there", api.Rows{a1}, more, chains("aa", has(-1, 1), has(0, 2)), api.Done{Regs: [4]int{2, 1}}},
		{"0 is something", nil, noughtB, chains("b", has(0, 0)), api.Done{}},
		{"dropped, and something there", api.Rows{a1}, dropA, chains("aa", has(-1, 1), nothing(0)), api.Done{}},
		{"dropped, and nothing there", nil, dropA, chains("a", nothing(0)), api.Done{}},
		{"handed on, and nothing there", nil, idle, chains("ac", nothing(0), nothing(0)), api.Done{}},
		{"handed on, and something there", api.Rows{a1}, idle, chains("aac", has(-1, 1), has(0, 1), nothing(0)), api.Done{}},
		{"one made, one handed on", api.Rows{a1, b2}, "reads; writes b a; const r2 9; store r2 a", chains("aabb", has(-1, 1), has(0, 9), has(-1, 2), has(0, 2)), api.Done{Regs: [4]int{0, 0, 9}}},
		{"each key has its own", api.Rows{a1, b2}, swap, chains("aabb", has(-1, 1), has(0, 2), has(-1, 2), has(0, 1)), api.Done{Regs: [4]int{1, 2}}},
		{"stored, and dropped", api.Rows{a1}, move, chains("aab", has(-1, 1), nothing(0), has(0, 1)), api.Done{Regs: [4]int{1}}},
		{"sees what it stored", api.Rows{a1}, "reads a; writes a; const r0 7; store r0 a; load r1 a", chains("aa", has(-1, 1), has(0, 7)), api.Done{Regs: [4]int{7, 7}}},
		{"sees nothing of what it dropped", api.Rows{a1}, "reads a; writes a; const r1 7; drop a; load r1 a", chains("aa", has(-1, 1), nothing(0)), api.Done{}},
		{"failed, and something there", api.Rows{a1, b2}, pay, chains("aabb", has(-1, 1), has(0, 1), has(-1, 2), has(0, 2)), api.Done{Failed: true, Regs: [4]int{-1, 2}}},
		{"failed, and nothing there", nil, pay, chains("ab", nothing(0), nothing(0)), api.Done{Failed: true, Regs: [4]int{-2, 2}}},
		{"failed, behind a drop", api.Rows{a1}, "reads; writes a; drop a; const r0 -1; fail r0", chains("aa", has(-1, 1), has(0, 1)), api.Done{Failed: true, Regs: [4]int{-1}}},
	} {
		d := read(t, c.d)
		want := api.Engine{Chains: c.want, Deeds: []api.Deed{d}, State: []int{api.DeedDone}, Ends: []api.Done{c.end}}
		if got, errno := Go(of(t, c.r, d), 0); errno != api.OK || !same(got, want) {
			t.Errorf("%s: %d %v, not %v", c.name, errno, got, want)
		}
	}
}

// What had nothing any more is handed on as nothing, and not as it once was.
func TestDroppedIsHandedOn(t *testing.T) {
	e := of(t, api.Rows{{Key: "a", N: 1}}, readAll(t, dropA, idle, pay, looks)...)
	e = goes(t, e, 0, 1, 2, 3)
	if want := []api.Version{has(-1, 1), nothing(0), nothing(1), nothing(2)}; !slices.Equal(e.Chains[0].Versions, want) {
		t.Errorf("%v, not %v", e.Chains[0].Versions, want)
	}
}

func TestGoWhereItCannot(t *testing.T) {
	e := goes(t, of(t, api.Rows{{Key: "a", N: 1}}, readAll(t, more, pay, fiveC, looks)...), 0)
	for _, c := range []struct {
		at   int
		want api.Errno
	}{
		{math.MinInt, api.ErrNone},
		{-1, api.ErrNone},
		{0, api.ErrDone},
		{1, api.OK},
		{2, api.OK},
		{3, api.ErrWait},
		{4, api.ErrNone},
		{math.MaxInt, api.ErrNone},
	} {
		before := plan.Own(e)
		got, errno := Go(e, c.at)
		if errno != c.want || same(got, e) != (c.want != api.OK) {
			t.Errorf("Go(%d): %d %v, not %d", c.at, errno, got, c.want)
		}
		if !same(e, before) {
			t.Errorf("Go(%d) changes %v: %v", c.at, before, e)
		}
	}
	for _, x := range []api.Engine{{}, plan.New(nil), plan.New(api.Rows{{Key: "a", N: 1}})} {
		for _, at := range []int{-1, 0, 1} {
			if got, errno := Go(x, at); errno != api.ErrNone || !same(got, x) {
				t.Errorf("Go(%v, %d): %d %v", x, at, errno, got)
			}
		}
	}
}

// Places count from the first deed that is there; numbers go on.
func TestGoBehindDeedsThatAreForgotten(t *testing.T) {
	e := of(t, api.Rows{{Key: "a", N: 1}}, readAll(t, more, move, more, ifA)...)
	e = forget(goes(t, e, 0, 1), 2)
	if got := Ready(e); !slices.Equal(got, []int{0}) {
		t.Fatalf("Ready: %v", got)
	}
	if _, errno := Go(e, 2); errno != api.ErrNone {
		t.Errorf("Go(2): %d", errno)
	}
	e = goes(t, e, 0)
	e, _ = plan.Add(e, readAll(t, pay))
	e = goes(t, e, 2, 1)
	want := api.Engine{
		Chains: []api.Chain{
			{Key: "a", Versions: []api.Version{has(2, 1), has(4, 1)}},
			{Key: "b", Versions: []api.Version{has(1, 2), has(4, 2)}},
			{Key: "c", Versions: []api.Version{has(3, 1)}},
		},
		Deeds: readAll(t, more, ifA, pay),
		State: []int{1, 1, 1},
		Ends:  []api.Done{{Regs: [4]int{1, 1}}, {Regs: [4]int{1, 0, 0, -7}}, {Failed: true, Regs: [4]int{-1, 2}}},
		Base:  2,
	}
	if !same(e, want) {
		t.Errorf("%v, not %v", e, want)
	}
}

// moments are what keys have ahead of each deed, and behind the last one, and
// how each ends, one by one.
func moments(r api.Rows, l []api.Deed) ([]api.Rows, []api.Done) {
	all := []api.Rows{r}
	var ends []api.Done
	for _, d := range l {
		var end api.Done
		r, end = plain.Do(r, d)
		all, ends = append(all, r), append(ends, end)
	}
	return all, ends
}

// needed tells, by deeds alone, whether the one at that place must wait: some
// deed ahead is not done, and writes a key that this one names, and nobody
// between them writes it.
func needed(l []api.Deed, done []bool, at int) bool {
	for i := range at {
		for _, k := range slices.Concat(l[at].Reads, l[at].Writes) {
			writes := func(d api.Deed) bool { return slices.Contains(d.Writes, k) }
			if !done[i] && writes(l[i]) && !slices.ContainsFunc(l[i+1:at], writes) {
				return true
			}
		}
	}
	return false
}

// walk goes on with e, of the deeds l, in each order that there is, and holds
// it against l one by one at each moment. It answers how many orders there are.
func walk(t *testing.T, l []api.Deed, e api.Engine, ahead []api.Rows, ends []api.Done) int {
	t.Helper()
	done := make([]bool, len(l))
	for i, s := range e.State {
		done[i] = s == api.DeedDone
		if done[i] && e.Ends[i] != ends[i] || !done[i] && e.Ends[i] != (api.Done{}) {
			t.Fatalf("%v: deed %d ends %v, not %v", l, i, e.Ends[i], ends[i])
		}
	}
	for i, want := range ahead {
		if r, ok := chain.Rows(e.Chains, i); ok && !slices.Equal(r, want) {
			t.Fatalf("%v, done %v: ahead of %d: %v, not %v", l, done, i, r, want)
		}
	}
	var ready []int
	orders := 0
	for at := range l {
		next, errno := Go(e, at)
		switch {
		case done[at]:
			if errno != api.ErrDone || !same(next, e) {
				t.Fatalf("%v, done %v: Go(%d): %d", l, done, at, errno)
			}
		case needed(l, done, at):
			if errno != api.ErrWait || !same(next, e) {
				t.Fatalf("%v, done %v: Go(%d): %d", l, done, at, errno)
			}
		default:
			if errno != api.OK || next.State[at] != api.DeedDone {
				t.Fatalf("%v, done %v: Go(%d): %d", l, done, at, errno)
			}
			ready = append(ready, at)
			orders += walk(t, l, next, ahead, ends)
		}
	}
	if got := Ready(e); !slices.Equal(got, ready) {
		t.Fatalf("%v, done %v: Ready: %v, not %v", l, done, got, ready)
	}
	if len(ready) > 0 {
		return orders
	}
	if _, whole := chain.Rows(e.Chains, len(l)); !whole || slices.Contains(done, false) {
		t.Fatalf("%v: not all is done: %v", l, e)
	}
	return 1
}

// starts are rows with and without each of a, b and c.
func starts() []api.Rows {
	return []api.Rows{nil, {{Key: "a", N: 3}, {Key: "c", N: -9}}, {{Key: "a", N: -1}, {Key: "b"}, {Key: "d", N: api.MaxNum}}}
}

// each calls f for all three deeds that texts make, on all starts.
func each(t *testing.T, f func(r api.Rows, l []api.Deed)) {
	for _, x := range texts() {
		for _, y := range texts() {
			for _, z := range texts() {
				for _, r := range starts() {
					f(r, readAll(t, x, y, z))
				}
			}
		}
	}
}

func TestWhicheverGoesFirst(t *testing.T) {
	orders := 0
	each(t, func(r api.Rows, l []api.Deed) {
		ahead, ends := moments(r, l)
		orders += walk(t, l, of(t, r, l...), ahead, ends)
	})
	if few := len(starts()) * len(texts()) * len(texts()) * len(texts()); orders < 2*few {
		t.Errorf("only %d orders of %d lists", orders, few)
	}
}

func TestWhicheverOfManyGoesFirst(t *testing.T) {
	for _, l := range [][]api.Deed{
		readAll(t, looks, more, looks, fiveC, noughtB, ifA, pay),
		readAll(t, none, looks, ifA, noughtB, dropA, swap, looks),
		readAll(t, looks, looks, idle, looks, noughtB, none, move),
	} {
		for _, r := range starts() {
			ahead, ends := moments(r, l)
			if orders := walk(t, l, of(t, r, l...), ahead, ends); orders < 10 {
				t.Errorf("%v: %d orders", l, orders)
			}
		}
	}
}

// somePicks are picks of all kinds: none, few, many, large and below 0.
func somePicks() [][]int {
	return [][]int{
		nil, {}, {0}, {1}, {-1}, {2, 1, 0}, {-1, -2, -3, -4}, {5, 5, 5, 5, 5, 5, 5, 5},
		{math.MinInt, math.MaxInt, math.MinInt + 1, math.MaxInt - 1},
	}
}

func TestAll(t *testing.T) {
	each(t, func(r api.Rows, l []api.Deed) {
		ahead, ends := moments(r, l)
		first := All(of(t, r, l...), nil)
		for _, picks := range somePicks() {
			got := All(of(t, r, l...), picks)
			if !same(got, first) || !slices.Equal(got.Ends, ends) || !slices.Equal(got.State, []int{1, 1, 1}) {
				t.Fatalf("All(%v, %v): %v, not %v", l, picks, got, first)
			}
			for i, want := range ahead {
				if now, ok := chain.Rows(got.Chains, i); !ok || !slices.Equal(now, want) {
					t.Fatalf("All(%v, %v): ahead of %d: %v, not %v", l, picks, i, now, want)
				}
			}
		}
	})
}

// Who is done stays done: All goes on with the others alone.
func TestAllGoesOn(t *testing.T) {
	l := readAll(t, looks, more, fiveC, ifA, pay, swap)
	for _, r := range starts() {
		want := All(of(t, r, l...), nil)
		begun := goes(t, of(t, r, l...), 1, 4)
		for _, picks := range somePicks() {
			if got := All(begun, picks); !same(got, want) {
				t.Errorf("All(%v): %v, not %v", picks, got, want)
			}
		}
		if again := All(want, []int{3}); !same(again, want) {
			t.Errorf("All of what is done: %v, not %v", again, want)
		}
		gone := forget(goes(t, begun, 0, 2), 3)
		if got := All(gone, []int{1}); !same(got, forget(want, 3)) {
			t.Errorf("All of what is left: %v, not %v", got, forget(want, 3))
		}
	}
}

func TestAllOfMany(t *testing.T) {
	n := 100
	e := All(of(t, nil, slices.Repeat(readAll(t, more, looks), n)...), []int{1, 1, 1, 1})
	if r, ok := chain.Rows(e.Chains, 2*n); !ok || !slices.Equal(r, api.Rows{{Key: "a", N: n}}) {
		t.Errorf("%v %v", r, ok)
	}
}

func TestPicker(t *testing.T) {
	const big, least = math.MaxInt, math.MinInt
	for _, c := range []struct{ picks, many, want []int }{
		{nil, []int{1, 2, 3}, []int{0, 0, 0}},
		{[]int{}, []int{4}, []int{0}},
		{[]int{0, 1, 2}, []int{3, 3, 3}, []int{0, 1, 2}},
		{[]int{3, 4, 5, 6}, []int{3, 3, 3, 3}, []int{0, 1, 2, 0}},
		{[]int{-1, -2, -3, -4}, []int{3, 3, 3, 3}, []int{2, 1, 0, 2}},
		{[]int{2, 2}, []int{3, 2, 9, 9}, []int{2, 0, 0, 0}},
		{[]int{7, 1}, []int{1, 1, 1}, []int{0, 0, 0}},
		{[]int{big, least, big, least}, []int{2, 2, 10, 10}, []int{1, 0, 7, 2}},
		{[]int{least, -1}, []int{1, 1}, []int{0, 0}},
	} {
		before := slices.Clone(c.picks)
		next := picker(c.picks)
		var got []int
		for _, many := range c.many {
			got = append(got, next(many))
		}
		if !slices.Equal(got, c.want) || !slices.Equal(c.picks, before) {
			t.Errorf("%v of %v: %v, not %v", c.picks, c.many, got, c.want)
		}
	}
}

// Of engines all orders end the same. In this one, which no call makes, the
// versions are made ahead of their deeds, so that each sees whether the one
// ahead of it went first.
func TestAllGoesByPicks(t *testing.T) {
	const n = 5
	e := of(t, nil, slices.Repeat(readAll(t, more), n)...)
	for i := range n {
		e.Chains[0].Versions[i] = has(i, 100*i)
	}
	for _, c := range []struct{ picks, order []int }{
		{nil, []int{0, 1, 2, 3, 4}},
		{[]int{4, 3, 2, 1}, []int{4, 3, 2, 1, 0}},
		{[]int{-1, -1, -1, -1, -1}, []int{4, 3, 2, 1, 0}},
		{[]int{1}, []int{1, 0, 2, 3, 4}},
		{[]int{7, 7, 7}, []int{2, 4, 1, 0, 3}},
		{[]int{5, 5, 5, 5, 5}, []int{0, 2, 4, 3, 1}},
		{[]int{-6, 9, 10, -7}, []int{4, 1, 2, 3, 0}},
		{[]int{3, 0, 0, 1, 6, 1, 2}, []int{3, 0, 1, 4, 2}},
	} {
		want := goes(t, e, c.order...)
		if got := All(e, c.picks); !same(got, want) {
			t.Errorf("All(%v): %v, not %v", c.picks, got.Ends, want.Ends)
		}
	}
}

// room answers l with spare room behind it, in which x stands.
func room[T any](l []T, x T) []T {
	return append(slices.Clone(l), x, x)[:len(l)]
}

// roomy answers e with spare room behind each of its lists.
func roomy(e api.Engine) api.Engine {
	out := api.Engine{State: room(e.State, 0), Ends: room(e.Ends, api.Done{Failed: true}), Base: e.Base}
	for _, c := range e.Chains {
		out.Chains = append(out.Chains, api.Chain{Key: c.Key, Versions: room(c.Versions, api.Version{By: 99, N: 99})})
	}
	for _, d := range e.Deeds {
		out.Deeds = append(out.Deeds, api.Deed{
			Reads:  room(d.Reads, "spare"),
			Writes: room(d.Writes, "spare"),
			Code:   room(d.Code, api.Instr{Kind: api.InFail}),
		})
	}
	out.Chains = room(out.Chains, api.Chain{Key: "spare"})
	out.Deeds = room(out.Deeds, api.Deed{Writes: []string{"spare"}})
	return out
}

// wholeOf answers a copy of e, with all the spare room that it has.
func wholeOf(e api.Engine) api.Engine {
	out := api.Engine{State: slices.Clone(e.State[:cap(e.State)]), Ends: slices.Clone(e.Ends[:cap(e.Ends)]), Base: e.Base}
	for _, c := range e.Chains[:cap(e.Chains)] {
		out.Chains = append(out.Chains, api.Chain{Key: c.Key, Versions: slices.Clone(c.Versions[:cap(c.Versions)])})
	}
	for _, d := range e.Deeds[:cap(e.Deeds)] {
		out.Deeds = append(out.Deeds, api.Deed{
			Reads:  slices.Clone(d.Reads[:cap(d.Reads)]),
			Writes: slices.Clone(d.Writes[:cap(d.Writes)]),
			Code:   slices.Clone(d.Code[:cap(d.Code)]),
		})
	}
	return out
}

// blot writes over all of e, its spare room too.
func blot(e api.Engine) {
	for _, c := range e.Chains[:cap(e.Chains)] {
		for i := range c.Versions[:cap(c.Versions)] {
			c.Versions[:cap(c.Versions)][i] = api.Version{By: 77, N: 77}
		}
	}
	for _, d := range e.Deeds[:cap(e.Deeds)] {
		clear(d.Reads[:cap(d.Reads)])
		clear(d.Writes[:cap(d.Writes)])
		clear(d.Code[:cap(d.Code)])
	}
	clear(e.Chains[:cap(e.Chains)])
	clear(e.Deeds[:cap(e.Deeds)])
	for i := range e.State[:cap(e.State)] {
		e.State[:cap(e.State)][i] = 77
	}
	for i := range e.Ends[:cap(e.Ends)] {
		e.Ends[:cap(e.Ends)][i] = api.Done{Failed: true, Regs: [4]int{77}}
	}
}

// engines are some of all kinds: without deeds, with some that wait, that are
// done, and that are gone.
func engines(t *testing.T) []api.Engine {
	some := of(t, api.Rows{{Key: "a", N: 1}, {Key: "d", N: 4}}, readAll(t, more, fiveC, ifA, move, looks)...)
	begun := goes(t, some, 0, 1)
	all := All(begun, nil)
	return []api.Engine{{}, plan.New(nil), plan.New(api.Rows{{Key: "b", N: 3}}), some, begun, forget(begun, 1), forget(begun, 2), all, forget(all, 5)}
}

// calls are those that answer engines: Go of places that are there, ready or
// not, and of some that are not, and All.
func calls() map[string]func(e api.Engine) api.Engine {
	list := map[string]func(e api.Engine) api.Engine{}
	for at := -1; at < 6; at++ {
		list["Go "+string(rune('1'+at))+" less 1"] = func(e api.Engine) api.Engine {
			got, _ := Go(e, at)
			return got
		}
	}
	list["All"] = func(e api.Engine) api.Engine { return All(e, nil) }
	list["All by picks"] = func(e api.Engine) api.Engine { return All(e, []int{4, -1, 3}) }
	return list
}

func TestNothingIsShared(t *testing.T) {
	for name, call := range calls() {
		for _, tight := range engines(t) {
			e := roomy(tight)
			before, want := wholeOf(e), call(plan.Own(tight))
			unchanged := func(what string) {
				t.Helper()
				if now := wholeOf(e); !same(now, before) {
					t.Fatalf("%s %s: %v, not %v", name, what, now, before)
				}
			}
			got := call(e)
			unchanged("changes what it is handed")
			if !same(got, want) {
				t.Fatalf("%s looks at the spare room: %v, not %v", name, got, want)
			}
			blot(got)
			unchanged("answers what it is handed")
			got = call(e)
			blot(e)
			if !same(got, want) {
				t.Fatalf("%s keeps what it is handed: %v, not %v", name, got, want)
			}
		}
	}
}

func TestReadyOnlyReads(t *testing.T) {
	for _, tight := range engines(t) {
		e := roomy(tight)
		before := wholeOf(e)
		got, want := Ready(e), Ready(plan.Own(tight))
		if !slices.Equal(got, want) {
			t.Errorf("Ready looks at the spare room: %v, not %v", got, want)
		}
		clear(got[:cap(got)])
		if now := wholeOf(e); !same(now, before) {
			t.Errorf("changed: %v, not %v", now, before)
		}
	}
}

func TestPicksAreOnlyRead(t *testing.T) {
	whole := []int{2, -1, 3, 9, 9}
	e := of(t, nil, readAll(t, looks, fiveC, more, looks)...)
	All(e, whole[:3])
	if !slices.Equal(whole, []int{2, -1, 3, 9, 9}) {
		t.Errorf("%v", whole)
	}
}

// Two engines that come of one do not write into each other.
func TestTwoComeOfOne(t *testing.T) {
	e := of(t, nil, readAll(t, more, fiveC, noughtB)...)
	one := goes(t, e, 0)
	before := wholeOf(one)
	other := goes(t, e, 2, 1)
	if !same(wholeOf(one), before) || same(one, other) {
		t.Errorf("%v, not %v", one, before)
	}
	if !same(goes(t, one, 1, 2), goes(t, other, 0)) {
		t.Errorf("%v %v", one, other)
	}
}

// Of what are no engines nothing is promised but that calls end, and answer
// the same again.
func TestWrongEnginesDoNotPanic(t *testing.T) {
	long := strings.Repeat("k", 1000)
	odd := []api.Deed{
		{Reads: []string{"", "A", long, "a", "a"}, Writes: []string{"a", "a", "\xff", ""}},
		{Code: []api.Instr{{Kind: -1, A: math.MaxInt, N: math.MinInt, Key: long}}},
		{Writes: []string{"a"}, Code: []api.Instr{{Kind: api.InDrop, Key: "a"}}},
	}
	chains := []api.Chain{{Key: "b", Versions: []api.Version{{By: 9}, {By: -9}}}, {Key: "a"}, {Key: "", Versions: []api.Version{{By: math.MinInt}}}}
	for _, e := range []api.Engine{
		{Deeds: odd},
		{Deeds: odd, State: make([]int, 3)},
		{Deeds: odd, Ends: make([]api.Done, 3)},
		{Deeds: odd, State: make([]int, 3), Ends: make([]api.Done, 3)},
		{Deeds: odd, State: []int{0, 0, 0, 0}, Ends: make([]api.Done, 1)},
		{Deeds: odd, State: []int{-1, 2, math.MaxInt}, Ends: make([]api.Done, 3)},
		{Chains: chains, Deeds: odd, State: make([]int, 3), Ends: make([]api.Done, 3), Base: math.MaxInt},
		{Chains: chains, Deeds: odd, State: make([]int, 3), Ends: make([]api.Done, 3), Base: math.MinInt},
		{Chains: chains, State: []int{1, 0}, Ends: make([]api.Done, 2), Base: -3},
	} {
		before := wholeOf(e)
		for _, picks := range somePicks() {
			if a, b := All(e, picks), All(e, picks); !same(a, b) || len(Ready(a)) != 0 {
				t.Errorf("All(%v, %v): %v, then %v", e, picks, a, b)
			}
		}
		ready := Ready(e)
		for at := -2; at < 6; at++ {
			a, errno := Go(e, at)
			b, again := Go(e, at)
			if errno != again || !same(a, b) || (errno == api.OK) != slices.Contains(ready, at) {
				t.Errorf("Go(%v, %d): %d %v, then %d %v", e, at, errno, a, again, b)
			}
		}
		if now := wholeOf(e); !same(now, before) {
			t.Errorf("changed: %v, not %v", now, before)
		}
	}
}
