package replica

import (
	"math"
	"reflect"
	"slices"
	"testing"

	"rankandfile/api"
	"rankandfile/deed"
	"rankandfile/log"
	"rankandfile/plain"
	"rankandfile/plan"
	"rankandfile/run"
	"rankandfile/text"
	"rankandfile/tidy"
)

const (
	more  = "reads a; writes a; load r0 a; const r1 1; add r0 r1; store r0 a"
	pay   = "reads a b; writes a b; load r0 a; const r1 2; sub r0 r1; store r0 a; fail r0; load r2 b; add r2 r1; store r2 b"
	dropA = "reads; writes a; drop a"
	fiveC = "reads; writes c; const r0 5; store r0 c"
	ifA   = "reads a; writes c; load r0 a; skip r0 1; store r0 c; const r3 -7"
	looks = "reads a b c; writes; load r0 a; load r1 b; load r2 c"
	move  = "reads a; writes b a; load r0 a; store r0 b; drop a"
	none  = "reads; writes"
)

func texts() []string { return []string{more, pay, dropA, fiveC, ifA, looks, move, none} }

func readAll(t *testing.T, texts ...string) []api.Deed {
	t.Helper()
	var l []api.Deed
	for _, s := range texts {
		d, errno := text.Parse(s)
		if errno != api.OK {
			t.Fatalf("%q is no deed: %d", s, errno)
		}
		l = append(l, d)
	}
	return l
}

// of answers the entry of that number, with the deeds of these texts.
func of(t *testing.T, number int, texts ...string) api.Entry {
	t.Helper()
	return api.Entry{Number: number, Deeds: readAll(t, texts...)}
}

// aLog is a log of all numbers, its entries of no deed to MaxBatch ones.
func aLog(t *testing.T) []api.Entry {
	t.Helper()
	var l []api.Entry
	for number := range api.MaxLog {
		var some []string
		for i := range (number*5 + 2) % (api.MaxBatch + 1) {
			some = append(some, texts()[(number*3+i*i)%len(texts())])
		}
		l = append(l, of(t, number, some...))
	}
	return l
}

// deedsOf answers the deeds of these entries, in turn.
func deedsOf(l []api.Entry) []api.Deed {
	var deeds []api.Deed
	for _, e := range l {
		deeds = append(deeds, e.Deeds...)
	}
	return deeds
}

// comes has these entries come, one behind the other, each of which is taken,
// or kept.
func comes(t *testing.T, r api.Replica, l ...api.Entry) api.Replica {
	t.Helper()
	for _, e := range l {
		now, errno := Come(r, e)
		if errno != api.OK && errno != api.ErrGap {
			t.Fatalf("Come of %d to %v: %d", e.Number, r, errno)
		}
		r = now
	}
	return r
}

// goes does the nth ones of those that are ready, one behind the other.
func goes(t *testing.T, r api.Replica, ns ...int) api.Replica {
	t.Helper()
	for _, n := range ns {
		now, errno := Go(r, n)
		if errno != api.OK {
			t.Fatalf("Go(%v, %d): %d", r, n, errno)
		}
		r = now
	}
	return r
}

func sameEntries(a, b []api.Entry) bool {
	return slices.EqualFunc(a, b, func(x, y api.Entry) bool {
		return x.Number == y.Number && slices.EqualFunc(x.Deeds, y.Deeds, deed.Same)
	})
}

func sameEngines(a, b api.Engine) bool {
	chains := slices.EqualFunc(a.Chains, b.Chains, func(x, y api.Chain) bool {
		return x.Key == y.Key && slices.Equal(x.Versions, y.Versions)
	})
	return chains && slices.EqualFunc(a.Deeds, b.Deeds, deed.Same) &&
		slices.Equal(a.State, b.State) && slices.Equal(a.Ends, b.Ends) && a.Base == b.Base
}

func same(a, b api.Replica) bool {
	return sameEngines(a.Engine, b.Engine) && a.Next == b.Next && sameEntries(a.Early, b.Early)
}

// numbers are those of these entries, in turn.
func numbers(l []api.Entry) []int {
	var ns []int
	for _, e := range l {
		ns = append(ns, e.Number)
	}
	return ns
}

// planned answers an engine of no rows, with these deeds, of which none is done.
func planned(t *testing.T, l []api.Deed) api.Engine {
	t.Helper()
	e, errno := plan.Add(plan.New(nil), l)
	if errno != api.OK {
		t.Fatalf("Add of %v: %d", l, errno)
	}
	return e
}

func TestNew(t *testing.T) {
	r := New()
	if !same(r, api.Replica{Engine: plan.New(nil)}) || r.Next != 0 || len(r.Early) != 0 || len(r.Engine.Chains) != 0 {
		t.Errorf("New: %v", r)
	}
	if seen := Seen(r); len(seen) != 0 {
		t.Errorf("Seen: %v", seen)
	}
	if now, errno := Go(r, 0); errno != api.ErrNone || !same(now, r) {
		t.Errorf("Go: %v %d", now, errno)
	}
	if now := Clear(r); !same(now, r) {
		t.Errorf("Clear: %v", now)
	}
}

func TestSecondEntryComesFirst(t *testing.T) {
	l := []api.Entry{of(t, 0, more, fiveC), of(t, 1, pay)}
	r, errno := Come(New(), l[1])
	if errno != api.ErrGap || !same(r, api.Replica{Early: l[1:]}) {
		t.Fatalf("Come of the second one: %v %d", r, errno)
	}
	r, errno = Come(r, l[0])
	if errno != api.OK || !same(r, api.Replica{Engine: planned(t, deedsOf(l)), Next: 2}) {
		t.Errorf("Come of the first one: %v %d", r, errno)
	}
}

func TestComeInTurn(t *testing.T) {
	l := aLog(t)
	r := New()
	for i, e := range l {
		now, errno := Come(r, e)
		want := api.Replica{Engine: planned(t, deedsOf(l[:i+1])), Next: i + 1}
		if errno != api.OK || !same(now, want) {
			t.Fatalf("Come of %d: %d %v, not %v", i, errno, now, want)
		}
		r = now
	}
}

// An entry without deeds counts as any other one does.
func TestComeWithoutDeeds(t *testing.T) {
	r := comes(t, New(), of(t, 2), of(t, 0), of(t, 1))
	if !same(r, api.Replica{Next: 3}) {
		t.Errorf("%v", r)
	}
}

// What each number tells, of replicas at which these have come.
func TestWhatComeTells(t *testing.T) {
	const ok, done, many, gap = api.OK, api.ErrDone, api.ErrMany, api.ErrGap
	for _, c := range []struct {
		came []int
		want [api.MaxLog]api.Errno
	}{
		{nil, [...]api.Errno{ok, gap, gap, gap, gap, gap, gap, gap, gap, gap, gap, gap}},
		{[]int{0}, [...]api.Errno{done, ok, gap, gap, gap, gap, gap, gap, gap, gap, gap, gap}},
		{[]int{1}, [...]api.Errno{ok, done, gap, gap, gap, gap, gap, gap, gap, gap, gap, gap}},
		{[]int{0, 1, 4}, [...]api.Errno{done, done, ok, gap, done, gap, gap, gap, gap, gap, gap, gap}},
		{[]int{11, 3, 9}, [...]api.Errno{ok, gap, gap, done, gap, gap, gap, gap, gap, done, gap, done}},
		{[]int{11, 3, 9, 1}, [...]api.Errno{ok, done, many, done, many, many, many, many, many, done, many, done}},
		{[]int{1, 2, 3, 4}, [...]api.Errno{ok, done, done, done, done, many, many, many, many, many, many, many}},
		{[]int{1, 2, 3, 4, 0}, [...]api.Errno{done, done, done, done, done, ok, gap, gap, gap, gap, gap, gap}},
		{[]int{0, 2, 5, 11, 7}, [...]api.Errno{done, ok, done, many, many, done, many, done, many, many, many, done}},
		{[]int{0, 1, 2, 3, 4, 5, 6, 7, 8, 9, 10}, [...]api.Errno{done, done, done, done, done, done, done, done, done, done, done, ok}},
		{[]int{0, 1, 2, 3, 4, 5, 6, 7, 8, 9, 11, 10}, [...]api.Errno{done, done, done, done, done, done, done, done, done, done, done, done}},
	} {
		r := New()
		for _, n := range c.came {
			r = comes(t, r, of(t, n, more))
		}
		for n, want := range c.want {
			now, errno := Come(r, of(t, n, fiveC))
			if errno != want {
				t.Errorf("%v came: Come of %d: %d, not %d", c.came, n, errno, want)
			}
			switch errno {
			case api.OK:
				if now.Next <= n {
					t.Errorf("%v came: %d is next behind %d", c.came, now.Next, n)
				}
			case api.ErrGap:
				if !same(now, api.Replica{Engine: r.Engine, Next: r.Next, Early: append(log.Own(r.Early), of(t, n, fiveC))}) {
					t.Errorf("%v came: %d is kept in %v", c.came, n, now)
				}
			default:
				if !same(now, r) {
					t.Errorf("%v came: Come of %d: %v, not %v", c.came, n, now, r)
				}
			}
		}
	}
}

// Early has them in the order in which they came, those that go left out.
func TestEarlyInTurn(t *testing.T) {
	for _, c := range []struct {
		came []int
		next int
		want []int
	}{
		{[]int{3, 1, 2}, 0, []int{3, 1, 2}},
		{[]int{5, 2, 7, 1, 0}, 3, []int{5, 7}},
		{[]int{5, 2, 3, 1, 0}, 4, []int{5}},
		{[]int{7, 5, 3, 9, 0}, 1, []int{7, 5, 3, 9}},
		{[]int{7, 5, 3, 9, 0, 1}, 2, []int{7, 5, 3, 9}},
		{[]int{7, 5, 3, 9, 0, 1, 2}, 4, []int{7, 5, 9}},
		{[]int{7, 5, 3, 9, 0, 1, 2, 11, 4}, 6, []int{7, 9, 11}},
		{[]int{7, 5, 3, 9, 0, 1, 2, 11, 4, 6}, 8, []int{9, 11}},
		{[]int{4, 3, 2, 1, 0, 8, 7, 6, 9, 5}, 10, nil},
	} {
		r := New()
		for _, n := range c.came {
			r = comes(t, r, of(t, n, more))
		}
		if r.Next != c.next || !slices.Equal(numbers(r.Early), c.want) || len(r.Engine.Deeds) != c.next {
			t.Errorf("%v came: Next %d, Early %v, of %d deeds", c.came, r.Next, numbers(r.Early), len(r.Engine.Deeds))
		}
	}
}

// The one that came first stays, whatever else comes by its number.
func TestTwiceIsOnce(t *testing.T) {
	first, other := of(t, 1, more), of(t, 1, fiveC, dropA)
	r := comes(t, New(), first)
	r, errno := Come(r, other)
	if errno != api.ErrDone || !sameEntries(r.Early, []api.Entry{first}) {
		t.Fatalf("%v %d", r, errno)
	}
	r = comes(t, r, of(t, 0, looks))
	for _, e := range []api.Entry{other, first, of(t, 0, looks), of(t, 0)} {
		now, errno := Come(r, e)
		if errno != api.ErrDone || !same(now, api.Replica{Engine: planned(t, readAll(t, looks, more)), Next: 2}) {
			t.Errorf("Come of %v: %v %d", e, now, errno)
		}
	}
}

// eachOrder calls f with each order of n numbers.
func eachOrder(n int, f func(order []int)) {
	var walk func(order []int)
	walk = func(order []int) {
		if len(order) == n {
			f(order)
			return
		}
		for i := range n {
			if !slices.Contains(order, i) {
				walk(append(slices.Clone(order), i))
			}
		}
	}
	walk(nil)
}

// In whatever order they come, each of them one to three times, all is planned
// as it is in turn.
func TestInWhateverOrderTheyCome(t *testing.T) {
	l := aLog(t)
	const n = api.MaxEarly + 1
	want := api.Replica{Engine: planned(t, deedsOf(l[:n])), Next: n}
	eachOrder(n, func(order []int) {
		once, often := New(), New()
		for i, at := range order {
			once = comes(t, once, l[at])
			often = comes(t, often, l[at])
			for _, again := range order[:i+1] {
				now, errno := Come(often, l[again])
				if errno != api.ErrDone || !same(now, often) {
					t.Fatalf("%v: Come of %d again: %v %d", order[:i+1], again, now, errno)
				}
			}
			if !same(once, often) {
				t.Fatalf("%v: %v, not %v", order[:i+1], often, once)
			}
		}
		if !same(once, want) {
			t.Fatalf("%v: %v, not %v", order, once, want)
		}
	})
}

// What is not taken, since too many are early, is taken when it comes later.
func TestAllComesAtLast(t *testing.T) {
	l := aLog(t)
	r, times := New(), 0
	for r.Next < len(l) {
		before := r.Next
		for i := range l {
			now, errno := Come(r, l[len(l)-1-i])
			if len(now.Early) > api.MaxEarly || errno == api.ErrMany && !same(now, r) {
				t.Fatalf("%v %d", now, errno)
			}
			r = now
		}
		if times++; r.Next <= before {
			t.Fatalf("%d is next, and then %d", before, r.Next)
		}
	}
	if !same(r, api.Replica{Engine: planned(t, deedsOf(l)), Next: len(l)}) || times < 2 {
		t.Errorf("after %d times: %v", times, r)
	}
}

// goesTo holds what Go(r, n) answers against Go (chapter 7) of that place.
func goesTo(t *testing.T, r api.Replica, n, at int) {
	t.Helper()
	engine, _ := run.Go(r.Engine, at)
	want := api.Replica{Engine: engine, Next: r.Next, Early: r.Early}
	if got, errno := Go(r, n); errno != api.OK || !same(got, want) {
		t.Errorf("Go(%d): %d %v, not %v", n, errno, got, want)
	}
}

// n counts those that are ready, not all that are there.
func TestGo(t *testing.T) {
	// more, pay and more again; fiveC and none need nothing of those.
	r := comes(t, New(), of(t, 0, more, pay, fiveC), of(t, 3, looks), of(t, 1, more, none), of(t, 5, none))
	for _, c := range []struct{ done, ready []int }{
		{nil, []int{0, 2, 4}},
		{[]int{0}, []int{1, 2, 4}},
		{[]int{1}, []int{0, 4}},
		{[]int{2, 1}, []int{0}},
		{[]int{0, 0, 0}, []int{3, 4}},
		{[]int{0, 0, 0, 1}, []int{3}},
		{[]int{2, 1, 0, 0, 0}, nil},
	} {
		now := goes(t, r, c.done...)
		if ready := run.Ready(now.Engine); !slices.Equal(ready, c.ready) {
			t.Fatalf("%v done: Ready: %v, not %v", c.done, ready, c.ready)
		}
		for n, at := range c.ready {
			goesTo(t, now, n, at)
		}
		many := len(c.ready)
		for _, n := range []int{math.MinInt, -many - 1, -many, -1, many, many + 1, 99, math.MaxInt} {
			if got, errno := Go(now, n); errno != api.ErrNone || !same(got, now) {
				t.Errorf("%v done: Go(%d): %v %d", c.done, n, got, errno)
			}
		}
	}
}

func TestClear(t *testing.T) {
	r := comes(t, New(), of(t, 0, more, pay), of(t, 4, looks), of(t, 1, fiveC), of(t, 3, more))
	for _, done := range [][]int{nil, {1}, {0}, {0, 0}, {0, 1}, {0, 0, 0}} {
		now := goes(t, r, done...)
		want := api.Replica{Engine: tidy.Clear(now.Engine), Next: 2, Early: now.Early}
		if got := Clear(now); !same(got, want) || !slices.Equal(numbers(got.Early), []int{4, 3}) {
			t.Errorf("%v done: %v, not %v", done, got, want)
		}
	}
	// All that is done is gone, and what is next still is.
	r = comes(t, Clear(goes(t, r, 0, 0, 0)), of(t, 2, ifA))
	if r.Next != 5 || len(r.Early) != 0 || r.Engine.Base != 3 || len(r.Engine.Deeds) != 3 {
		t.Errorf("%v", r)
	}
	if now, errno := Come(r, of(t, 0, more)); errno != api.ErrDone || !same(now, r) {
		t.Errorf("Come of what is forgotten: %v %d", now, errno)
	}
}

func TestSeen(t *testing.T) {
	r := comes(t, New(), of(t, 0, fiveC, more), of(t, 2, dropA), of(t, 1, more, looks))
	c5 := api.Pair{Key: "c", N: 5}
	for _, c := range []struct {
		done []int
		want api.Rows
	}{
		{nil, nil},
		{[]int{1}, nil},
		{[]int{0}, api.Rows{c5}},
		{[]int{1, 1, 0}, api.Rows{{Key: "a", N: 2}, c5}},
		{[]int{1, 0}, api.Rows{{Key: "a", N: 1}, c5}},
		{[]int{0, 0, 0}, api.Rows{{Key: "a", N: 2}, c5}},
		{[]int{0, 0, 0, 0}, api.Rows{{Key: "a", N: 2}, c5}},
		{[]int{0, 0, 0, 1}, api.Rows{{Key: "a", N: 2}, c5}},
		{[]int{0, 0, 0, 0, 0}, api.Rows{c5}},
	} {
		now := goes(t, r, c.done...)
		if got := Seen(now); !slices.Equal(got, c.want) {
			t.Errorf("%v done: %v, not %v", c.done, got, c.want)
		}
		if got := Seen(Clear(now)); !slices.Equal(got, c.want) {
			t.Errorf("%v done, and forgotten: %v, not %v", c.done, got, c.want)
		}
	}
}

// moments are what keys have ahead of each of these deeds, and behind the last
// one, one by one, and how each ends.
func moments(l []api.Deed) ([]api.Rows, []api.Done) {
	all := []api.Rows{nil}
	var ends []api.Done
	for _, d := range l {
		r, end := plain.Do(all[len(all)-1], d)
		all, ends = append(all, r), append(ends, end)
	}
	return all, ends
}

// wasSo looks that what r sees was so, one by one, and that what is done there
// ended as it did then.
func wasSo(t *testing.T, r api.Replica, l []api.Entry) {
	t.Helper()
	rows, ends := moments(deedsOf(l[:r.Next]))
	base := r.Engine.Base
	if base+len(r.Engine.Deeds) != len(ends) {
		t.Fatalf("%d deeds, and %d that are gone, of %d", len(r.Engine.Deeds), base, len(ends))
	}
	if at := base + tidy.Mark(r.Engine); !slices.Equal(Seen(r), rows[at]) {
		t.Fatalf("Seen(%v): %v, not %v", r, Seen(r), rows[at])
	}
	for i, s := range r.Engine.State {
		if s == api.DeedDone && r.Engine.Ends[i] != ends[base+i] {
			t.Fatalf("deed %d ends %v, not %v", base+i, r.Engine.Ends[i], ends[base+i])
		}
	}
}

// Entries come, deeds are done, and what is old is forgotten, in turns that
// differ from seed to seed: all the same comes of it, and what was seen was so.
func TestTheSameInTheEnd(t *testing.T) {
	l := aLog(t)
	want := Clear(api.Replica{Engine: run.All(planned(t, deedsOf(l)), nil), Next: len(l)})
	for seed := range 60 {
		r, turn := New(), seed
		next := func(many int) int {
			turn = (turn*1103515245 + 12345) % (1 << 31)
			return turn >> 8 % many
		}
		for steps := 0; r.Next < len(l) || len(run.Ready(r.Engine)) > 0; steps++ {
			if steps > 10000 {
				t.Fatalf("seed %d: no end: %v", seed, r)
			}
			switch next(4) {
			case 0:
				r, _ = Come(r, l[next(len(l))])
			case 1:
				r = Clear(r)
			default:
				r, _ = Go(r, next(1+len(run.Ready(r.Engine))))
			}
			wasSo(t, r, l)
		}
		if r = Clear(r); !same(r, want) {
			t.Errorf("seed %d: %v, not %v", seed, r, want)
		}
	}
}

// replicas are some of all kinds: empty, early, begun, done, and forgotten.
func replicas(t *testing.T) []api.Replica {
	t.Helper()
	early := comes(t, New(), of(t, 3, more), of(t, 2), of(t, 5, fiveC, move))
	both := comes(t, early, of(t, 0, more, fiveC, looks, ifA))
	begun := goes(t, both, 1, 0)
	full := comes(t, begun, of(t, 11, pay, more))
	rest := goes(t, begun, 0, 0)
	return []api.Replica{{}, New(), early, both, begun, full, comes(t, full, of(t, 1, dropA)), Clear(begun), rest, Clear(rest)}
}

func TestOwn(t *testing.T) {
	for _, r := range replicas(t) {
		if got := Own(r); !same(got, r) {
			t.Errorf("Own(%v): %v", r, got)
		}
	}
}

// room answers l with spare room behind it, in which x stands.
func room[T any](l []T, x T) []T {
	whole := append(append(make([]T, 0, len(l)+2), l...), x, x)
	return whole[:len(l)]
}

func roomyDeeds(l []api.Deed) []api.Deed {
	var out []api.Deed
	for _, d := range l {
		out = append(out, api.Deed{
			Reads:  room(d.Reads, "spare"),
			Writes: room(d.Writes, "spare"),
			Code:   room(d.Code, api.Instr{Kind: api.InFail}),
		})
	}
	return room(out, api.Deed{Writes: []string{"spare"}})
}

func roomyEntry(e api.Entry) api.Entry {
	return api.Entry{Number: e.Number, Deeds: roomyDeeds(e.Deeds)}
}

// roomy answers r with spare room behind each of its lists.
func roomy(r api.Replica) api.Replica {
	e := r.Engine
	out := api.Replica{Next: r.Next, Engine: api.Engine{
		Deeds: roomyDeeds(e.Deeds),
		State: room(e.State, api.DeedWaits),
		Ends:  room(e.Ends, api.Done{Failed: true}),
		Base:  e.Base,
	}}
	var chains []api.Chain
	for _, c := range e.Chains {
		chains = append(chains, api.Chain{Key: c.Key, Versions: room(c.Versions, api.Version{By: 99, N: 99})})
	}
	out.Engine.Chains = room(chains, api.Chain{Key: "spare"})
	var early []api.Entry
	for _, e := range r.Early {
		early = append(early, roomyEntry(e))
	}
	// What is next stands there, and would be taken by who looks there.
	out.Early = room(early, api.Entry{Number: r.Next})
	return out
}

func whole[T any](l []T) []T { return slices.Clone(l[:cap(l)]) }

func wholeDeeds(l []api.Deed) []api.Deed {
	all := whole(l)
	for i, d := range all {
		all[i] = api.Deed{Reads: whole(d.Reads), Writes: whole(d.Writes), Code: whole(d.Code)}
	}
	return all
}

// wholeOf answers a copy of r, with all the spare room that it has.
func wholeOf(r api.Replica) api.Replica {
	e := r.Engine
	out := api.Replica{Next: r.Next, Early: whole(r.Early), Engine: api.Engine{
		Chains: whole(e.Chains), Deeds: wholeDeeds(e.Deeds), State: whole(e.State), Ends: whole(e.Ends), Base: e.Base,
	}}
	for i, c := range out.Engine.Chains {
		out.Engine.Chains[i].Versions = whole(c.Versions)
	}
	for i, e := range out.Early {
		out.Early[i].Deeds = wholeDeeds(e.Deeds)
	}
	return out
}

// fill writes x over all of l, its spare room too.
func fill[T any](l []T, x T) {
	l = l[:cap(l)]
	for i := range l {
		l[i] = x
	}
}

func blotDeeds(l []api.Deed) {
	for _, d := range l[:cap(l)] {
		fill(d.Reads, "blot")
		fill(d.Writes, "blot")
		fill(d.Code, api.Instr{Kind: 77})
	}
	fill(l, api.Deed{})
}

// blot writes over all of r, its spare room too.
func blot(r api.Replica) {
	for _, c := range r.Engine.Chains[:cap(r.Engine.Chains)] {
		fill(c.Versions, api.Version{By: 77, N: 77})
	}
	for _, e := range r.Early[:cap(r.Early)] {
		blotDeeds(e.Deeds)
	}
	blotDeeds(r.Engine.Deeds)
	fill(r.Engine.Chains, api.Chain{Key: "blot"})
	fill(r.Engine.State, 77)
	fill(r.Engine.Ends, api.Done{Failed: true, Regs: [4]int{77}})
	fill(r.Early, api.Entry{Number: 77})
}

// call answers a replica, and why not, of one that it is handed, and an entry.
type call struct {
	name string
	of   func(r api.Replica, e api.Entry) (api.Replica, api.Errno)
}

func calls() []call {
	l := []call{
		{"Own", func(r api.Replica, e api.Entry) (api.Replica, api.Errno) { return Own(r), api.OK }},
		{"Clear", func(r api.Replica, e api.Entry) (api.Replica, api.Errno) { return Clear(r), api.OK }},
		{"Come", Come},
	}
	for n := -1; n < 4; n++ {
		l = append(l, call{"Go", func(r api.Replica, e api.Entry) (api.Replica, api.Errno) { return Go(r, n) }})
	}
	return l
}

// handed are entries that are next, early, there, and wrong.
func handed(t *testing.T) []api.Entry {
	t.Helper()
	return []api.Entry{{}, of(t, 0, more, looks), of(t, 1, dropA, move), of(t, 3, more), of(t, 6, fiveC), of(t, 12, more), of(t, -1, more)}
}

func TestNothingIsShared(t *testing.T) {
	for _, c := range calls() {
		for _, tight := range replicas(t) {
			for _, entry := range handed(t) {
				r, e := roomy(tight), roomyEntry(entry)
				before, deeds := wholeOf(r), wholeDeeds(e.Deeds)
				unchanged := func(what string) {
					t.Helper()
					if now := wholeOf(r); !reflect.DeepEqual(now, before) || !reflect.DeepEqual(wholeDeeds(e.Deeds), deeds) {
						t.Fatalf("%s %s: %v, %v, not %v, %v", c.name, what, now, e, before, deeds)
					}
				}
				want, why := c.of(Own(tight), entry)
				got, errno := c.of(r, e)
				unchanged("changes what it is handed")
				if !same(got, want) || errno != why {
					t.Fatalf("%s looks at the spare room: %d %v, not %d %v", c.name, errno, got, why, want)
				}
				blot(got)
				unchanged("answers what it is handed")
				got, _ = c.of(r, e)
				blot(r)
				blotDeeds(e.Deeds)
				if !same(got, want) {
					t.Fatalf("%s keeps what it is handed: %v, not %v", c.name, got, want)
				}
			}
		}
	}
}

// Whoever makes one list of an answer longer does not write into another one.
func TestListsOfAnAnswerAreApart(t *testing.T) {
	longer := func(l []api.Deed) {
		for _, d := range l {
			_, _ = append(d.Reads, "more", "more"), append(d.Writes, "more", "more")
			_ = append(d.Code, api.Instr{Kind: 88}, api.Instr{Kind: 89})
		}
	}
	for _, c := range calls() {
		for _, r := range replicas(t) {
			for _, entry := range handed(t) {
				got, _ := c.of(r, entry)
				want := Own(got)
				for _, c := range got.Engine.Chains {
					_ = append(c.Versions, api.Version{By: 88}, api.Version{By: 89})
				}
				for _, e := range got.Early {
					_ = append(e.Deeds, api.Deed{}, api.Deed{})
					longer(e.Deeds)
				}
				longer(got.Engine.Deeds)
				if !same(got, want) {
					t.Errorf("%s: %v, not %v", c.name, got, want)
				}
			}
		}
	}
}

// Two that come of one do not write into each other.
func TestTwoComeOfOne(t *testing.T) {
	r := comes(t, New(), of(t, 5, more), of(t, 7, more), of(t, 6, more))
	one := comes(t, r, of(t, 3, fiveC))
	before := wholeOf(one)
	other := comes(t, r, of(t, 4, dropA), of(t, 0, more))
	if !reflect.DeepEqual(wholeOf(one), before) || !slices.Equal(numbers(other.Early), []int{5, 7, 6, 4}) {
		t.Errorf("%v, not %v; %v", one, before, other)
	}
}

func TestSeenOnlyReads(t *testing.T) {
	for _, tight := range replicas(t) {
		r := roomy(tight)
		before := wholeOf(r)
		got := Seen(r)
		if want := Seen(tight); !slices.Equal(got, want) {
			t.Errorf("Seen looks at the spare room: %v, not %v", got, want)
		}
		clear(got[:cap(got)])
		if now := wholeOf(r); !reflect.DeepEqual(now, before) {
			t.Errorf("changed: %v, not %v", now, before)
		}
	}
}

// Of a wrong entry it is told why it is none, and nothing is kept of it.
func TestWrongEntriesAreNotTaken(t *testing.T) {
	wrong := []api.Deed{
		{Reads: []string{"A"}},
		{Writes: []string{"a", "a"}},
		{Code: []api.Instr{{}}},
		{Code: []api.Instr{{Kind: api.InFail, A: api.MaxRegs}}},
		{Code: []api.Instr{{Kind: api.InLoad, Key: "a"}}},
		{Code: []api.Instr{{Kind: api.InFail, Key: "a"}}},
	}
	var l []api.Entry
	for _, n := range []int{math.MinInt, -1, 12, 13, 256, math.MaxInt} {
		l = append(l, of(t, n), of(t, n, more))
	}
	for n := range api.MaxLog {
		l = append(l, of(t, n, more, more, more, more, more, more, more))
		for _, d := range wrong {
			l = append(l, api.Entry{Number: n, Deeds: []api.Deed{d}}, api.Entry{Number: n, Deeds: append(readAll(t, more), d)})
		}
	}
	for _, r := range replicas(t) {
		for _, e := range l {
			if now, errno := Come(r, e); errno != log.Wrong(e) || errno == api.OK || !same(now, r) {
				t.Errorf("Come of %v to %v: %d %v", e, r, errno, now)
			}
		}
	}
}

// More than MaxEarly are too many, too.
func TestMoreThanMaxEarly(t *testing.T) {
	r := api.Replica{}
	for n := 1; n <= api.MaxEarly+2; n++ {
		r.Early = append(r.Early, of(t, n, more))
	}
	if now, errno := Come(r, of(t, 9, more)); errno != api.ErrMany || !same(now, r) {
		t.Errorf("%d %v", errno, now)
	}
	if now, errno := Come(r, of(t, 0, more)); errno != api.OK || now.Next != api.MaxEarly+3 || len(now.Early) != 0 {
		t.Errorf("%d %v", errno, now)
	}
}

// A wrong entry that was kept all the same takes nothing away from what is there.
func TestWrongEntryThatWasKept(t *testing.T) {
	l := []api.Entry{of(t, 0, more), {Number: 1, Deeds: []api.Deed{{Reads: []string{"A"}}}}}
	now, errno := Come(api.Replica{Early: l[1:]}, l[0])
	if want := (api.Replica{Engine: planned(t, l[0].Deeds), Next: 1, Early: l[1:]}); errno != api.OK || !same(now, want) {
		t.Errorf("%d %v, not %v", errno, now, want)
	}
}

// Of what are no replicas nothing is promised but that calls end, and answer
// the same again.
func TestWrongReplicasDoNotPanic(t *testing.T) {
	odd := []api.Deed{{Reads: []string{"", "a", "a"}, Writes: []string{"\xff"}}, {Code: []api.Instr{{Kind: -1, A: math.MaxInt}}}, {}}
	chains := []api.Chain{{Key: "b", Versions: []api.Version{{By: 9}, {By: -9}}}, {Key: "a"}}
	engines := []api.Engine{
		{},
		{Deeds: odd},
		{Deeds: odd, State: make([]int, 9), Ends: make([]api.Done, 1)},
		{Chains: chains, Deeds: odd, State: []int{1, 0, 5}, Ends: make([]api.Done, 3), Base: math.MaxInt},
		{Chains: chains, Deeds: odd, State: make([]int, 3), Ends: make([]api.Done, 3), Base: math.MinInt},
	}
	early := [][]api.Entry{
		nil,
		{{Number: 1, Deeds: odd}, {Number: 1}, {Number: 2}},
		{{Number: 1}, {Number: 2, Deeds: odd}, {Number: 3}},
		{{Number: math.MaxInt}, {Number: math.MinInt}, {Number: -1}, {}, {}, {Number: 12}},
	}
	for _, engine := range engines {
		for _, l := range early {
			for _, next := range []int{0, 1, -1, 99, math.MinInt, math.MaxInt} {
				r := api.Replica{Engine: engine, Next: next, Early: l}
				before := wholeOf(r)
				for _, c := range calls() {
					for _, e := range handed(t) {
						a, errno := c.of(r, e)
						if b, again := c.of(r, e); errno != again || !same(a, b) {
							t.Errorf("%s of %v: %d %v, then %d %v", c.name, r, errno, a, again, b)
						}
					}
				}
				if !slices.Equal(Seen(r), Seen(r)) || !reflect.DeepEqual(wholeOf(r), before) {
					t.Errorf("changed: %v, not %v", r, before)
				}
			}
		}
	}
}
