package tidy

import (
	"math"
	"slices"
	"strings"
	"testing"

	"rankandfile/api"
	"rankandfile/deed"
	"rankandfile/plain"
	"rankandfile/plan"
	"rankandfile/run"
	"rankandfile/text"
)

const (
	more  = "reads a; writes a; load r0 a; const r1 1; add r0 r1; store r0 a"
	pay   = "reads a b; writes a b; load r0 a; const r1 2; sub r0 r1; store r0 a; fail r0; load r2 b; add r2 r1; store r2 b"
	dropA = "reads; writes a; drop a"
	fiveC = "reads; writes c; const r0 5; store r0 c"
	ifA   = "reads a; writes c; load r0 a; skip r0 1; store r0 c; const r3 -7"
	looks = "reads a b c; writes; load r0 a; load r1 b; load r2 c"
	move  = "reads a; writes b a; load r0 a; store r0 b; drop a"
	idle  = "reads; writes a c"
	none  = "reads; writes"
)

func texts() []string { return []string{more, pay, dropA, fiveC, ifA, looks, move, idle, none} }

func readAll(t *testing.T, texts ...string) []api.Deed {
	t.Helper()
	var l []api.Deed
	for _, s := range texts {
		d, errno := text.Parse(s)
		if errno != api.OK {
			t.Fatalf("%q is no deed: %d", s, errno)
		}
		l = append(l, d)
	}
	return l
}

// add plans these deeds behind those of e.
func add(t *testing.T, e api.Engine, l ...api.Deed) api.Engine {
	t.Helper()
	now, errno := plan.Add(e, l)
	if errno != api.OK {
		t.Fatalf("Add of %v: %d", l, errno)
	}
	return now
}

// of answers an engine of r, with the deeds of these texts, that wait.
func of(t *testing.T, r api.Rows, texts ...string) api.Engine {
	t.Helper()
	return add(t, plan.New(r), readAll(t, texts...)...)
}

// goes does the deeds at these places, one behind the other.
func goes(t *testing.T, e api.Engine, places ...int) api.Engine {
	t.Helper()
	for _, at := range places {
		now, errno := run.Go(e, at)
		if errno != api.OK {
			t.Fatalf("Go(%v, %d): %d", e, at, errno)
		}
		e = now
	}
	return e
}

func sameChains(a, b []api.Chain) bool {
	return slices.EqualFunc(a, b, func(x, y api.Chain) bool {
		return x.Key == y.Key && slices.Equal(x.Versions, y.Versions)
	})
}

func same(a, b api.Engine) bool {
	return sameChains(a.Chains, b.Chains) && slices.EqualFunc(a.Deeds, b.Deeds, deed.Same) &&
		slices.Equal(a.State, b.State) && slices.Equal(a.Ends, b.Ends) && a.Base == b.Base
}

// Short forms: a version that has n, one that has nothing, one that waits.
func has(by, n int) api.Version  { return api.Version{By: by, Made: true, Has: true, N: n} }
func nothing(by int) api.Version { return api.Version{By: by, Made: true} }
func waits(by int) api.Version   { return api.Version{By: by} }

// chainOf answers the chain of a key.
func chainOf(key string, versions ...api.Version) api.Chain {
	return api.Chain{Key: key, Versions: versions}
}

// pairs answers rows of a, b and so on; those that are 0 have nothing.
func pairs(ns ...int) api.Rows {
	var r api.Rows
	for i, n := range ns {
		if n != 0 {
			r = append(r, api.Pair{Key: string(rune('a' + i)), N: n})
		}
	}
	return r
}

func TestOneOfThreeIsDoneAndForgotten(t *testing.T) {
	e := goes(t, of(t, pairs(1), more, more, more), 0)
	if got := Mark(e); got != 1 {
		t.Errorf("Mark: %d", got)
	}
	want := api.Engine{
		Chains: []api.Chain{chainOf("a", has(0, 2), waits(1), waits(2))},
		Deeds:  readAll(t, more, more),
		State:  []int{api.DeedWaits, api.DeedWaits},
		Ends:   make([]api.Done, 2),
		Base:   1,
	}
	got := Clear(e)
	if !same(got, want) {
		t.Errorf("Clear: %v, not %v", got, want)
	}
	if Size(e) != 4 || Size(got) != 3 {
		t.Errorf("Size: %d, then %d", Size(e), Size(got))
	}
}

func TestMark(t *testing.T) {
	e := of(t, pairs(1), more, fiveC, looks, none, ifA)
	for _, c := range []struct {
		done []int
		want int
	}{
		{nil, 0},
		{[]int{0}, 1},
		{[]int{1}, 0},
		{[]int{1, 3, 0}, 2},
		{[]int{0, 1, 2}, 3},
		{[]int{0, 1, 4, 3}, 2},
		{[]int{3, 0, 1, 4, 2}, 5},
	} {
		now := goes(t, e, c.done...)
		if got := Mark(now); got != c.want {
			t.Errorf("%v done: Mark: %d, not %d", c.done, got, c.want)
		}
	}
	for _, e := range []api.Engine{{}, plan.New(nil), plan.New(pairs(1))} {
		if got := Mark(e); got != 0 {
			t.Errorf("Mark(%v): %d", e, got)
		}
	}
}

// A deed that failed is done, too.
func TestMarkOfOneThatFailed(t *testing.T) {
	e := goes(t, of(t, nil, pay, more), 0)
	if !e.Ends[0].Failed || Mark(e) != 1 {
		t.Errorf("Mark(%v): %d", e, Mark(e))
	}
}

// Those that are gone count no more.
func TestMarkBehindDeedsThatAreForgotten(t *testing.T) {
	e := Clear(goes(t, of(t, nil, more, fiveC, more, more), 0, 1))
	for i, want := range []int{0, 1, 2} {
		if i > 0 {
			e = goes(t, e, i-1)
		}
		if got := Mark(e); got != want || e.Base != 2 {
			t.Errorf("%d done behind %d: Mark: %d", want, e.Base, got)
		}
	}
}

func TestClear(t *testing.T) {
	e := of(t, pairs(1, 3), more, move, fiveC, more, ifA)
	b3, c5 := chainOf("b", has(-1, 3), waits(1)), chainOf("c", has(2, 5), waits(4))
	for _, c := range []struct {
		name string
		done []int
		want []api.Chain
		base int
	}{
		{"none is done", nil, e.Chains, 0},
		{"one is done, and one ahead waits", []int{2}, []api.Chain{e.Chains[0], b3, c5}, 0},
		{"one is done", []int{0}, []api.Chain{chainOf("a", has(0, 2), waits(1), waits(3)), b3, chainOf("c", waits(2), waits(4))}, 1},
		{"what has nothing goes", []int{0, 1}, []api.Chain{chainOf("a", waits(3)), chainOf("b", has(1, 2)), chainOf("c", waits(2), waits(4))}, 2},
		{"all but one are done", []int{0, 1, 3, 2}, []api.Chain{chainOf("a", has(3, 1)), chainOf("b", has(1, 2)), c5}, 4},
		{"all are done", []int{2, 0, 1, 3, 4}, []api.Chain{chainOf("a", has(3, 1)), chainOf("b", has(1, 2)), chainOf("c", has(4, 1))}, 5},
	} {
		now := goes(t, e, c.done...)
		want := api.Engine{Chains: c.want, Deeds: now.Deeds[c.base:], State: now.State[c.base:], Ends: now.Ends[c.base:], Base: c.base}
		if got := Clear(now); !same(got, want) {
			t.Errorf("%s: %v, not %v", c.name, got, want)
		}
	}
}

// What is done behind one that waits stays, with how it ended.
func TestClearKeepsWhatIsDoneBehind(t *testing.T) {
	e := Clear(goes(t, of(t, pairs(-5), more, looks, fiveC, more), 0, 3, 2))
	want := []api.Done{{}, {Regs: [4]int{5}}, {Regs: [4]int{-3, 1}}}
	if !slices.Equal(e.Ends, want) || !slices.Equal(e.State, []int{api.DeedWaits, api.DeedDone, api.DeedDone}) || e.Base != 1 {
		t.Errorf("%v", e)
	}
	// The one that waits sees what it would have seen ahead of that.
	if e = goes(t, e, 0); e.Ends[0] != (api.Done{Regs: [4]int{-4}}) {
		t.Errorf("%v", e.Ends[0])
	}
}

// A key that has nothing any more, and of which nobody makes anything, is gone.
func TestClearOfKeysThatHaveNothing(t *testing.T) {
	e := Clear(run.All(of(t, pairs(1), dropA, idle), nil))
	if !same(e, api.Engine{Base: 2}) {
		t.Errorf("%v", e)
	}
	if r, errno := Seen(e, 0); len(r) != 0 || errno != api.OK || Size(e) != 0 {
		t.Errorf("%v %d, Size %d", r, errno, Size(e))
	}
}

func TestClearOfNone(t *testing.T) {
	for _, e := range []api.Engine{{}, plan.New(nil), plan.New(pairs(1, 2))} {
		if got := Clear(e); !same(got, e) {
			t.Errorf("Clear(%v): %v", e, got)
		}
	}
}

// What is done again and again needs no more room, if what is old is forgotten.
func TestForgottenAgainAndAgain(t *testing.T) {
	const n = 200
	e := plan.New(nil)
	for range n {
		e = Clear(goes(t, add(t, e, readAll(t, more)...), 0))
		if Size(e) != 1 || len(e.Deeds)+len(e.State)+len(e.Ends) != 0 {
			t.Fatalf("%v", e)
		}
	}
	if !same(e, api.Engine{Chains: []api.Chain{chainOf("a", has(n-1, n))}, Base: n}) {
		t.Errorf("%v", e)
	}
}

func TestSeen(t *testing.T) {
	e := goes(t, of(t, pairs(1, 3), more, fiveC, move, looks, more, none), 1, 0)
	type seen struct {
		r     api.Rows
		errno api.Errno
	}
	for _, c := range []struct {
		at   int
		want seen
	}{
		{math.MinInt, seen{nil, api.ErrNone}},
		{-1, seen{nil, api.ErrNone}},
		{0, seen{pairs(1, 3), api.OK}},
		{1, seen{pairs(2, 3), api.OK}},
		{2, seen{pairs(2, 3, 5), api.OK}},
		{3, seen{nil, api.ErrWait}},
		{6, seen{nil, api.ErrWait}},
		{7, seen{nil, api.ErrNone}},
		{math.MaxInt, seen{nil, api.ErrNone}},
	} {
		if r, errno := Seen(e, c.at); !slices.Equal(r, c.want.r) || errno != c.want.errno {
			t.Errorf("Seen(%d): %v %d, not %v", c.at, r, errno, c.want)
		}
	}
	// Those that write nothing need not be done.
	e = goes(t, e, 2, 4)
	for at, want := range []api.Rows{pairs(1, 3), pairs(2, 3), pairs(2, 3, 5), pairs(0, 2, 5), pairs(0, 2, 5), pairs(1, 2, 5), pairs(1, 2, 5)} {
		if r, errno := Seen(e, at); !slices.Equal(r, want) || errno != api.OK {
			t.Errorf("Seen(%d): %v %d, not %v", at, r, errno, want)
		}
	}
}

// All must be made: a deed that is done is not seen beside one ahead that waits.
func TestSeenWhereNotAllIsMade(t *testing.T) {
	e := goes(t, of(t, pairs(1), fiveC, more), 1)
	for at, want := range []api.Errno{api.OK, api.ErrWait, api.ErrWait} {
		if r, errno := Seen(e, at); errno != want || errno != api.OK && len(r) != 0 {
			t.Errorf("Seen(%d): %v %d, not %d", at, r, errno, want)
		}
	}
	if r, errno := Seen(goes(t, e, 0), 2); !slices.Equal(r, pairs(2, 0, 5)) || errno != api.OK {
		t.Errorf("%v %d", r, errno)
	}
}

func TestSeenWithoutDeeds(t *testing.T) {
	gone := Clear(run.All(of(t, pairs(4), more, more), nil))
	for _, c := range []struct {
		e    api.Engine
		want api.Rows
	}{
		{api.Engine{}, nil},
		{plan.New(nil), nil},
		{plan.New(pairs(1, 2)), pairs(1, 2)},
		{gone, pairs(6)},
	} {
		for _, at := range []int{-1, 0, 1, 2} {
			r, errno := Seen(c.e, at)
			if at == 0 && (errno != api.OK || !slices.Equal(r, c.want)) || at != 0 && (errno != api.ErrNone || len(r) != 0) {
				t.Errorf("Seen(%v, %d): %v %d", c.e, at, r, errno)
			}
		}
	}
}

func TestSize(t *testing.T) {
	for _, c := range []struct {
		e    api.Engine
		want int
	}{
		{api.Engine{}, 0},
		{plan.New(nil), 0},
		{plan.New(pairs(1)), 1},
		{plan.New(pairs(1, 2, 3)), 3},
		{of(t, nil, none, looks), 0},
		{of(t, nil, more), 1},
		{of(t, pairs(1, 2), more, pay, idle), 7},
		{run.All(of(t, pairs(1, 2), more, pay, idle), nil), 7},
		{Clear(run.All(of(t, pairs(1, 2), more, pay, idle), nil)), 2},
	} {
		if got := Size(c.e); got != c.want {
			t.Errorf("Size(%v): %d, not %d", c.e, got, c.want)
		}
	}
}

// doneAhead counts deed by deed.
func doneAhead(e api.Engine) int {
	n := 0
	for n < len(e.State) && e.State[n] == api.DeedDone {
		n++
	}
	return n
}

// cleared goes version by version, in the words of the chapters.
func cleared(e api.Engine) api.Engine {
	gone := doneAhead(e)
	left := api.Engine{Deeds: e.Deeds[gone:], State: e.State[gone:], Ends: e.Ends[gone:], Base: e.Base + gone}
	for _, c := range e.Chains {
		var stay []api.Version
		for i, v := range c.Versions {
			last := i+1 == len(c.Versions) || c.Versions[i+1].By >= left.Base
			if v.By >= left.Base || last && !(v.Made && !v.Has) {
				stay = append(stay, v)
			}
		}
		if len(stay) > 0 {
			left.Chains = append(left.Chains, chainOf(c.Key, stay...))
		}
	}
	return left
}

// moments are what keys have ahead of each deed, and behind the last one, one
// by one.
func moments(r api.Rows, l []api.Deed) []api.Rows {
	all := []api.Rows{r}
	for _, d := range l {
		r, _ = plain.Do(r, d)
		all = append(all, r)
	}
	return all
}

// madeAhead tells whether all that deeds ahead of that place make last of a
// key is made: by deeds alone, not by chains.
func madeAhead(e api.Engine, at int) bool {
	for i, d := range e.Deeds[:at] {
		for _, k := range d.Writes {
			again := func(x api.Deed) bool { return slices.Contains(x.Writes, k) }
			if e.State[i] == api.DeedWaits && !slices.ContainsFunc(e.Deeds[i+1:at], again) {
				return false
			}
		}
	}
	return true
}

// seenIs holds what is seen at all places of e against the moments.
func seenIs(t *testing.T, e api.Engine, moments []api.Rows) {
	t.Helper()
	for at := -2; at < len(e.Deeds)+3; at++ {
		var want api.Rows
		why := api.ErrNone
		switch {
		case at < 0 || at > len(e.Deeds):
		case madeAhead(e, at):
			want, why = moments[e.Base+at], api.OK
		default:
			why = api.ErrWait
		}
		if r, errno := Seen(e, at); !slices.Equal(r, want) || errno != why {
			t.Fatalf("Seen(%v, %d): %v %d, not %v %d", e, at, r, errno, want, why)
		}
	}
}

// walk goes on with e, of which nothing is ever forgotten, and with tidied, of
// which some is, in each order that there is; what comes must be the same. It
// answers how many orders there are.
func walk(t *testing.T, e, tidied api.Engine, moments []api.Rows) int {
	t.Helper()
	mark, left := Mark(e), Clear(e)
	if mark != doneAhead(e) || !same(left, cleared(e)) {
		t.Fatalf("%v: Mark: %d, Clear: %v, not %v", e, mark, left, cleared(e))
	}
	if now := Clear(tidied); !same(now, left) || Mark(now) != 0 || !same(Clear(now), now) {
		t.Fatalf("Clear(%v): %v, not %v", tidied, now, left)
	}
	if Size(left) > Size(e) || left.Base != mark {
		t.Fatalf("Clear(%v): %v, of Size %d, not %d", e, left, Size(left), Size(e))
	}
	seenIs(t, e, moments)
	seenIs(t, tidied, moments)
	seenIs(t, left, moments)
	ready := run.Ready(e)
	orders := 0
	for _, at := range ready {
		next := goes(t, e, at)
		// Once what is old is forgotten here, and once it is kept.
		orders += walk(t, next, goes(t, left, at-left.Base), moments)
		walk(t, next, goes(t, tidied, at-tidied.Base), moments)
	}
	if len(ready) > 0 {
		return orders
	}
	if mark != len(e.Deeds) {
		t.Fatalf("not all is done: %v", e)
	}
	return 1
}

// starts are rows with and without each of a, b and c.
func starts() []api.Rows {
	return []api.Rows{nil, pairs(3, 0, -9), pairs(-1, 1, 0, api.MaxNum)}
}

// Nobody misses what is old: forgotten, it goes on the same, in all orders of
// all three deeds that texts make.
func TestForgottenItGoesOnTheSame(t *testing.T) {
	orders, lists := 0, 0
	for _, x := range texts() {
		for _, y := range texts() {
			for _, z := range texts() {
				for _, r := range starts() {
					e := of(t, r, x, y, z)
					orders += walk(t, e, plan.Own(e), moments(r, e.Deeds))
					lists++
				}
			}
		}
	}
	if orders < 2*lists {
		t.Errorf("only %d orders of %d lists", orders, lists)
	}
}

func TestForgottenManyGoOnTheSame(t *testing.T) {
	for _, l := range [][]string{
		{looks, more, fiveC, looks, ifA, pay},
		{none, looks, ifA, dropA, move, looks},
		{more, looks, idle, fiveC, none, move},
	} {
		for _, r := range starts() {
			e := of(t, r, l...)
			if orders := walk(t, e, plan.Own(e), moments(r, e.Deeds)); orders < 5 {
				t.Errorf("%v: %d orders", l, orders)
			}
		}
	}
}

// Deeds that come behind what is forgotten do what they would have done.
func TestAddedBehindWhatIsForgotten(t *testing.T) {
	for _, r := range starts() {
		for _, s := range texts() {
			e := goes(t, of(t, r, move, fiveC, looks), 0, 1)
			late := readAll(t, s, looks, pay)
			want, got := add(t, e, late...), add(t, Clear(e), late...)
			seenIs(t, got, moments(r, want.Deeds))
			if want, got = run.All(want, nil), run.All(got, nil); !slices.Equal(got.Ends, want.Ends[2:]) || !same(Clear(got), Clear(want)) {
				t.Errorf("%q on %v: %v, not %v", s, r, got, want)
			}
		}
	}
}

// room answers l with spare room behind it, in which x stands.
func room[T any](l []T, x T) []T {
	return append(slices.Clone(l), x, x)[:len(l)]
}

// roomy answers e with spare room behind each of its lists.
func roomy(e api.Engine) api.Engine {
	out := api.Engine{State: room(e.State, api.DeedDone), Ends: room(e.Ends, api.Done{Failed: true}), Base: e.Base}
	for _, c := range e.Chains {
		out.Chains = append(out.Chains, chainOf(c.Key, room(c.Versions, has(99, 99))...))
	}
	for _, d := range e.Deeds {
		out.Deeds = append(out.Deeds, api.Deed{
			Reads:  room(d.Reads, "spare"),
			Writes: room(d.Writes, "spare"),
			Code:   room(d.Code, api.Instr{Kind: api.InFail}),
		})
	}
	out.Chains = room(out.Chains, chainOf("spare", has(98, 98)))
	out.Deeds = room(out.Deeds, api.Deed{Writes: []string{"spare"}})
	return out
}

// wholeOf answers a copy of e, with all the spare room that it has.
func wholeOf(e api.Engine) api.Engine {
	out := api.Engine{State: slices.Clone(e.State[:cap(e.State)]), Ends: slices.Clone(e.Ends[:cap(e.Ends)]), Base: e.Base}
	for _, c := range e.Chains[:cap(e.Chains)] {
		out.Chains = append(out.Chains, chainOf(c.Key, slices.Clone(c.Versions[:cap(c.Versions)])...))
	}
	for _, d := range e.Deeds[:cap(e.Deeds)] {
		out.Deeds = append(out.Deeds, api.Deed{
			Reads:  slices.Clone(d.Reads[:cap(d.Reads)]),
			Writes: slices.Clone(d.Writes[:cap(d.Writes)]),
			Code:   slices.Clone(d.Code[:cap(d.Code)]),
		})
	}
	return out
}

// fill writes x over all of l, its spare room too.
func fill[T any](l []T, x T) {
	l = l[:cap(l)]
	for i := range l {
		l[i] = x
	}
}

// blot writes over all of e, its spare room too.
func blot(e api.Engine) {
	for _, c := range e.Chains[:cap(e.Chains)] {
		fill(c.Versions, api.Version{By: 77, N: 77})
	}
	for _, d := range e.Deeds[:cap(e.Deeds)] {
		fill(d.Reads, "blot")
		fill(d.Writes, "blot")
		fill(d.Code, api.Instr{Kind: 77})
	}
	fill(e.Chains, api.Chain{Key: "blot"})
	fill(e.Deeds, api.Deed{})
	fill(e.State, 77)
	fill(e.Ends, api.Done{Failed: true, Regs: [4]int{77}})
}

// engines are some of all kinds: without deeds, with some that wait, that are
// done, and that are gone.
func engines(t *testing.T) []api.Engine {
	some := of(t, pairs(1, 0, 0, 4), more, fiveC, ifA, move, looks)
	begun := goes(t, some, 0, 1)
	all := run.All(begun, nil)
	return []api.Engine{{}, plan.New(nil), plan.New(pairs(0, 3)), some, begun, Clear(begun), all, Clear(all)}
}

func TestNothingIsShared(t *testing.T) {
	for _, tight := range engines(t) {
		e := roomy(tight)
		before, want := wholeOf(e), Clear(plan.Own(tight))
		unchanged := func(what string) {
			t.Helper()
			if now := wholeOf(e); !same(now, before) {
				t.Fatalf("Clear %s: %v, not %v", what, now, before)
			}
		}
		got := Clear(e)
		unchanged("changes what it is handed")
		if !same(got, want) {
			t.Fatalf("Clear looks at the spare room: %v, not %v", got, want)
		}
		blot(got)
		unchanged("answers what it is handed")
		got = Clear(e)
		blot(e)
		if !same(got, want) {
			t.Fatalf("Clear keeps what it is handed: %v, not %v", got, want)
		}
	}
}

// Whoever makes one list of an answer longer does not write into another one.
func TestListsOfAnAnswerAreApart(t *testing.T) {
	for _, e := range engines(t) {
		got := Clear(e)
		want := plan.Own(got)
		for _, c := range got.Chains {
			_ = append(c.Versions, has(88, 88), has(89, 89))
		}
		for _, d := range got.Deeds {
			_, _ = append(d.Reads, "more", "more"), append(d.Writes, "more", "more")
			_ = append(d.Code, api.Instr{Kind: 88}, api.Instr{Kind: 89})
		}
		if !same(got, want) {
			t.Errorf("%v, not %v", got, want)
		}
	}
}

func TestWhoAsksOnlyReads(t *testing.T) {
	for _, tight := range engines(t) {
		e := roomy(tight)
		before, own := wholeOf(e), plan.Own(tight)
		if Mark(e) != Mark(own) || Size(e) != Size(own) {
			t.Errorf("Mark or Size looks at the spare room of %v: %d %d", before, Mark(e), Size(e))
		}
		for at := -1; at < 8; at++ {
			got, errno := Seen(e, at)
			want, why := Seen(own, at)
			if !slices.Equal(got, want) || errno != why {
				t.Errorf("Seen(%d) looks at the spare room: %v %d, not %v %d", at, got, errno, want, why)
			}
			clear(got[:cap(got)])
		}
		if now := wholeOf(e); !same(now, before) {
			t.Errorf("changed: %v, not %v", now, before)
		}
	}
}

// Of what are no engines nothing is promised but that calls end, and answer
// the same again.
func TestWrongEnginesDoNotPanic(t *testing.T) {
	long := strings.Repeat("k", 1000)
	odd := []api.Deed{
		{Reads: []string{"", "A", long, "a", "a"}, Writes: []string{"a", "a", "\xff", ""}},
		{Code: []api.Instr{{Kind: -1, A: math.MaxInt, N: math.MinInt, Key: long}}},
		{},
	}
	chains := []api.Chain{chainOf("b", waits(9), waits(-9)), chainOf("a"), chainOf("", has(math.MinInt, 1), nothing(0))}
	done := []int{api.DeedDone, api.DeedDone, api.DeedDone}
	for _, e := range []api.Engine{
		{Deeds: odd},
		{Deeds: odd, State: done},
		{Deeds: odd, Ends: make([]api.Done, 3)},
		{Deeds: odd[:1], State: done, Ends: make([]api.Done, 3)},
		{Deeds: odd, State: done[:2], Ends: make([]api.Done, 3)},
		{Deeds: odd, State: done, Ends: make([]api.Done, 1)},
		{Deeds: odd, State: []int{-1, 2, math.MaxInt}, Ends: make([]api.Done, 3)},
		{State: done, Ends: make([]api.Done, 3), Base: -3},
		{Chains: chains},
		{Chains: chains, Deeds: odd, State: done, Ends: make([]api.Done, 3), Base: math.MaxInt},
		{Chains: chains, Deeds: odd, State: done, Ends: make([]api.Done, 3), Base: math.MinInt},
	} {
		before := wholeOf(e)
		mark := Mark(e)
		if a, b := Clear(e), Clear(e); !same(a, b) || Mark(e) != mark || len(a.Deeds) != len(e.Deeds)-mark || Size(a) > Size(e) {
			t.Errorf("Clear(%v), Mark %d: %v, then %v", e, mark, a, b)
		}
		for _, at := range []int{math.MinInt, -1, 0, 1, 2, 3, 4, math.MaxInt} {
			a, errno := Seen(e, at)
			b, again := Seen(e, at)
			if errno != again || !slices.Equal(a, b) || errno != api.OK && len(a) != 0 {
				t.Errorf("Seen(%v, %d): %v %d, then %v %d", e, at, a, errno, b, again)
			}
		}
		if now := wholeOf(e); !same(now, before) {
			t.Errorf("changed: %v, not %v", now, before)
		}
	}
}
