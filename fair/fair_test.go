package fair

import (
	"bytes"
	"math"
	"reflect"
	"slices"
	"testing"

	"rankandfile/api"
	"rankandfile/cluster"
	"rankandfile/deed"
	"rankandfile/log"
	"rankandfile/plain"
	"rankandfile/replica"
	"rankandfile/text"
)

const (
	more  = "reads a; writes a; load r0 a; const r1 1; add r0 r1; store r0 a"
	pay   = "reads a b; writes a b; load r0 a; const r1 2; sub r0 r1; store r0 a; fail r0; load r2 b; add r2 r1; store r2 b"
	dropA = "reads; writes a; drop a"
	fiveC = "reads; writes c; const r0 5; store r0 c"
	looks = "reads a b c; writes; load r0 a; load r1 b; load r2 c"
	move  = "reads a; writes b a; load r0 a; store r0 b; drop a"
	none  = "reads; writes"
)

func texts() []string { return []string{more, pay, dropA, fiveC, looks, move, none} }

func readAll(t *testing.T, texts ...string) []api.Deed {
	t.Helper()
	var l []api.Deed
	for _, s := range texts {
		d, errno := text.Parse(s)
		if errno != api.OK {
			t.Fatalf("%q is no deed: %d", s, errno)
		}
		l = append(l, d)
	}
	return l
}

// Steps, by their names.
func batchOf(t *testing.T, texts ...string) api.Step {
	t.Helper()
	return api.Step{Kind: api.StepBatch, Deeds: readAll(t, texts...)}
}

func sends(to, entry int) api.Step { return api.Step{Kind: api.StepSend, N: to, M: entry} }
func comes(n int) api.Step         { return api.Step{Kind: api.StepCome, N: n} }
func loses(n int) api.Step         { return api.Step{Kind: api.StepLose, N: n} }
func twice(n int) api.Step         { return api.Step{Kind: api.StepTwice, N: n} }
func goesOn(r, n int) api.Step     { return api.Step{Kind: api.StepRun, N: r, M: n} }
func clears(r int) api.Step        { return api.Step{Kind: api.StepClear, N: r} }

func wrongDeeds() []api.Deed {
	return []api.Deed{
		{Reads: []string{"A"}},
		{Writes: []string{"a", "a"}},
		{Reads: []string{"a", "b", "c", "d", "e", "f"}},
		{Code: []api.Instr{{}}},
		{Code: []api.Instr{{Kind: api.InFail, A: api.MaxRegs}}},
		{Code: []api.Instr{{Kind: api.InLoad, Key: "a"}}},
		{Code: []api.Instr{{Kind: api.InFail, Key: "a"}}},
	}
}

func sameEntries(a, b []api.Entry) bool {
	return slices.EqualFunc(a, b, func(x, y api.Entry) bool {
		return x.Number == y.Number && slices.EqualFunc(x.Deeds, y.Deeds, deed.Same)
	})
}

func sameReplicas(a, b api.Replica) bool {
	x, y := a.Engine, b.Engine
	chains := slices.EqualFunc(x.Chains, y.Chains, func(l, m api.Chain) bool {
		return l.Key == m.Key && slices.Equal(l.Versions, m.Versions)
	})
	return chains && slices.EqualFunc(x.Deeds, y.Deeds, deed.Same) &&
		slices.Equal(x.State, y.State) && slices.Equal(x.Ends, y.Ends) && x.Base == y.Base &&
		a.Next == b.Next && sameEntries(a.Early, b.Early)
}

func samePackets(a, b api.Packet) bool { return a.To == b.To && bytes.Equal(a.Data, b.Data) }

func same(a, b api.Cluster) bool {
	return sameEntries(a.Log, b.Log) && slices.EqualFunc(a.Replicas, b.Replicas, sameReplicas) &&
		slices.EqualFunc(a.Net, b.Net, samePackets)
}

// picker answers a function that picks numbers from 0 on, that differ from
// seed to seed.
func picker(seed int) func(many int) int {
	turn := seed
	return func(many int) int {
		turn = (turn*1103515245 + 12345) % (1 << 31)
		return turn >> 8 % many
	}
}

// anyStep answers a step that may be right or wrong.
func anyStep(t *testing.T, c api.Cluster, next func(many int) int) api.Step {
	t.Helper()
	s := api.Step{Kind: next(9), N: next(len(c.Replicas)+2) - 1, M: next(len(c.Log)+2) - 1}
	switch s.Kind {
	case api.StepCome, api.StepLose, api.StepTwice:
		s.N = next(len(c.Net)+2) - 1
	case api.StepRun:
		s.M = next(5) - 1
	case api.StepBatch:
		for range next(8) {
			s.Deeds = append(s.Deeds, readAll(t, texts()[next(len(texts()))])...)
		}
		if next(8) == 0 {
			s.Deeds = append(s.Deeds, wrongDeeds()[next(len(wrongDeeds()))])
		}
	}
	return s
}

// plays answers what these steps make of a new cluster of n replicas; each of
// them can be done.
func plays(t *testing.T, n int, l ...api.Step) api.Cluster {
	t.Helper()
	c, told, errno := Play(n, l)
	if errno != api.OK || !slices.Equal(told, make([]api.Errno, len(l))) {
		t.Fatalf("Play(%d, %v): %v %d", n, l, told, errno)
	}
	return c
}

// batches answers steps of that many entries, of no deed to three ones.
func batches(t *testing.T, entries int) []api.Step {
	t.Helper()
	var l []api.Step
	for i := range entries {
		var some []string
		for k := range (i*3 + 2) % 4 {
			some = append(some, texts()[(i*2+k)%len(texts())])
		}
		l = append(l, batchOf(t, some...))
	}
	return l
}

// rounded answers what Round must make of c, told replica by replica.
func rounded(c api.Cluster) api.Cluster {
	want := cluster.Own(c)
	for _, p := range c.Net {
		e, _ := log.Parse(p.Data)
		want.Replicas[p.To], _ = replica.Come(want.Replicas[p.To], e)
	}
	want.Net = nil
	for i, r := range want.Replicas {
		if r.Next < len(c.Log) {
			r, _ = replica.Come(r, c.Log[r.Next])
		}
		for range len(r.Engine.Deeds) {
			r, _ = replica.Go(r, 0)
		}
		want.Replicas[i] = r
	}
	return want
}

// rounds looks what a Round makes of c, and answers it.
func rounds(t *testing.T, c api.Cluster) api.Cluster {
	t.Helper()
	got, want := Round(c), rounded(c)
	if !same(got, want) {
		t.Fatalf("Round(%v): %v, not %v", c, got, want)
	}
	return got
}

// nexts answers which entry is next, replica by replica.
func nexts(c api.Cluster) []int {
	var l []int
	for _, r := range c.Replicas {
		l = append(l, r.Next)
	}
	return l
}

// waiting tells whether a deed of r waits.
func waiting(r api.Replica) bool { return slices.Contains(r.Engine.State, api.DeedWaits) }

// isDone looks whether c is Done.
func isDone(t *testing.T, c api.Cluster, want bool) {
	t.Helper()
	if got := Done(c); got != want {
		t.Errorf("Done(%v): %v", c, got)
	}
}

// settles looks that c needs that many Rounds, and answers what they make of it.
func settles(t *testing.T, c api.Cluster, many int) api.Cluster {
	t.Helper()
	want := c
	for range many {
		want = rounded(want)
	}
	got, n := Settle(c)
	if n != many || !same(got, want) {
		t.Fatalf("Settle(%v): %d %v, not %d %v", c, n, got, many, want)
	}
	return got
}

// has looks that each replica of c has all of the log, and sees what comes of
// its deeds one by one; that each of its deeds ended so; and that nothing waits.
func has(t *testing.T, c api.Cluster) {
	t.Helper()
	var deeds []api.Deed
	for _, e := range c.Log {
		deeds = append(deeds, e.Deeds...)
	}
	rows, ends := plain.All(nil, deeds)
	for _, r := range c.Replicas {
		if r.Next != len(c.Log) || len(r.Early) != 0 || waiting(r) {
			t.Fatalf("%v has not all of %v", r, c.Log)
		}
		if seen := replica.Seen(r); !slices.Equal(seen, rows) {
			t.Fatalf("%v sees %v, not %v", r, seen, rows)
		}
		if !slices.Equal(r.Engine.Ends, ends[r.Engine.Base:]) {
			t.Fatalf("%v ended %v, not %v", r, r.Engine.Ends, ends)
		}
	}
	if len(c.Net) != 0 {
		t.Fatalf("%v is on its way", c.Net)
	}
}

func TestPlay(t *testing.T) {
	for n := 1; n <= api.MaxReplicas; n++ {
		l := []api.Step{
			batchOf(t, more, fiveC), sends(n-1, 0), sends(n, 0), comes(0), comes(0), goesOn(n-1, 1), {Kind: 9},
			batchOf(t, more, more, more, more, more, more, more), {Kind: api.StepBatch, Deeds: wrongDeeds()[:1]},
			goesOn(n-1, 1), clears(0), clears(-1), batchOf(t, looks), sends(0, 1), twice(0), loses(1), loses(1),
		}
		want := []api.Errno{
			api.OK, api.OK, api.ErrNone, api.OK, api.ErrNone, api.OK, api.ErrKind,
			api.ErrMany, api.ErrName,
			api.ErrNone, api.OK, api.ErrNone, api.OK, api.OK, api.OK, api.OK, api.ErrNone,
		}
		c, told, errno := Play(n, l)
		if errno != api.OK || !slices.Equal(told, want) {
			t.Fatalf("Play(%d): %v %d, not %v", n, told, errno, want)
		}
		if len(c.Log) != 2 || len(c.Replicas) != n || len(c.Net) != 1 || c.Net[0].To != 0 || !slices.Equal(c.Replicas[n-1].Engine.State, []int{0, 1}) {
			t.Errorf("Play(%d): %v", n, c)
		}
	}
}

func TestPlayOfNoSteps(t *testing.T) {
	for n := 1; n <= api.MaxReplicas; n++ {
		want, _ := cluster.New(n)
		for _, l := range [][]api.Step{nil, {}} {
			if c, told, errno := Play(n, l); errno != api.OK || len(told) != 0 || !same(c, want) {
				t.Errorf("Play(%d, %v): %v %v %d", n, l, c, told, errno)
			}
		}
	}
}

// fails looks that Play tells why there is nothing to play, and nothing else.
func fails(t *testing.T, n int, l []api.Step, want api.Errno) {
	t.Helper()
	if c, told, errno := Play(n, l); errno != want || len(told) != 0 || !reflect.DeepEqual(c, api.Cluster{}) {
		t.Errorf("Play(%d) of %d: %v %v %d, not %d", n, len(l), c, told, errno, want)
	}
}

// What is wrong with n is told first.
func TestPlayOfWrongClusters(t *testing.T) {
	for _, n := range []int{0, 4, 5, -1, math.MinInt, math.MaxInt} {
		for _, many := range []int{0, 1, 120, 121, 500} {
			fails(t, n, make([]api.Step, many), api.ErrRange)
		}
	}
}

func TestPlayOfManySteps(t *testing.T) {
	for n := 1; n <= api.MaxReplicas; n++ {
		for _, many := range []int{121, 122, 240, 5000} {
			fails(t, n, make([]api.Step, many), api.ErrMany)
			fails(t, n, slices.Repeat([]api.Step{batchOf(t, more)}, many), api.ErrMany)
		}
		for _, many := range []int{119, 120} {
			c, told, errno := Play(n, slices.Repeat([]api.Step{batchOf(t, more)}, many))
			want := slices.Repeat([]api.Errno{api.ErrMany}, many)
			copy(want, make([]api.Errno, api.MaxLog))
			if errno != api.OK || !slices.Equal(told, want) || len(c.Log) != api.MaxLog {
				t.Errorf("Play(%d) of %d: %v %d", n, many, told, errno)
			}
		}
	}
}

// Play is what Do makes of a New one, step by step.
func TestPlayIsStepByStep(t *testing.T) {
	for seed := range 60 {
		want, _ := cluster.New(1 + seed%3)
		next := picker(seed)
		var l []api.Step
		var wants []api.Errno
		for range 1 + next(api.MaxSteps) {
			s := anyStep(t, want, next)
			now, errno := cluster.Do(want, s)
			l, wants, want = append(l, s), append(wants, errno), now
		}
		if c, told, errno := Play(1+seed%3, l); errno != api.OK || !slices.Equal(told, wants) || !same(c, want) {
			t.Fatalf("seed %d: %v %v %d, not %v %v", seed, c, told, errno, want, wants)
		}
	}
}

func TestOneRoundIsEnoughForOneEntry(t *testing.T) {
	for n := 1; n <= api.MaxReplicas; n++ {
		c := plays(t, n, batchOf(t, more, pay, more, fiveC, more))
		isDone(t, c, false)
		c = rounds(t, c)
		isDone(t, c, true)
		has(t, c)
		for _, r := range c.Replicas {
			if seen := replica.Seen(r); !slices.Equal(seen, api.Rows{{Key: "a", N: 3}, {Key: "c", N: 5}}) {
				t.Errorf("%d: %v", n, seen)
			}
		}
	}
}

// A replica is sent one entry a Round, that is next there.
func TestRoundSendsWhatIsNext(t *testing.T) {
	c := plays(t, 3, append(batches(t, 5), sends(1, 0), sends(1, 1), sends(2, 1), sends(2, 2), comes(0), comes(0), comes(0), comes(0))...)
	for _, want := range [][]int{{0, 2, 0}, {1, 3, 3}, {2, 4, 4}, {3, 5, 5}, {4, 5, 5}, {5, 5, 5}, {5, 5, 5}} {
		if got := nexts(c); !slices.Equal(got, want) {
			t.Fatalf("%v, not %v", got, want)
		}
		c = rounds(t, c)
	}
	has(t, c)
}

// What is on its way comes ahead of what is sent, whomever it goes to.
func TestRoundHasAllCome(t *testing.T) {
	c := plays(t, 2, append(batches(t, 6), sends(1, 2), sends(0, 1), sends(1, 0), sends(0, 0), sends(1, 0))...)
	c = rounds(t, c)
	if got := nexts(c); !slices.Equal(got, []int{3, 3}) || len(c.Net) != 0 {
		t.Errorf("%v", c)
	}
	c = plays(t, 2, append(batches(t, 6), sends(1, 0), sends(1, 1), sends(1, 2))...)
	if got := nexts(rounds(t, c)); !slices.Equal(got, []int{1, 4}) {
		t.Errorf("%v", got)
	}
}

// Of five that are early the last one is not kept: the first one comes first.
func TestRoundHasTheFirstOneComeFirst(t *testing.T) {
	for _, x := range []struct {
		entries []int
		next    int
	}{{[]int{1, 2, 3, 4, 5}, 5}, {[]int{5, 4, 3, 2, 1}, 1}, {[]int{1, 2, 4, 5, 3}, 3}, {[]int{5, 1, 2, 3, 4}, 4}} {
		l := batches(t, 7)
		for _, entry := range x.entries {
			l = append(l, sends(0, entry))
		}
		if got := nexts(rounds(t, plays(t, 1, l...))); !slices.Equal(got, []int{x.next}) {
			t.Errorf("%v: %v", x.entries, got)
		}
	}
}

// As many packets as there may be are no hindrance.
func TestRoundOfManyPackets(t *testing.T) {
	l := batches(t, api.MaxLog)
	for n := range api.MaxNet {
		l = append(l, sends(n%3, n*5%api.MaxLog))
	}
	c := plays(t, 3, l...)
	if len(c.Net) != api.MaxNet {
		t.Fatalf("%d are on their way", len(c.Net))
	}
	if c = rounds(t, c); len(c.Net) != 0 || slices.Contains(nexts(c), 0) {
		t.Errorf("%v", c)
	}
}

// All that is ready is done, and what is ready then, also where no entry came.
func TestRoundDoesWhatIsReady(t *testing.T) {
	c := plays(t, 2, batchOf(t, more, more, more, looks, move), sends(1, 0), comes(0), goesOn(1, 0))
	c = rounds(t, c)
	for i, r := range c.Replicas {
		if waiting(r) || len(r.Engine.State) != 5 {
			t.Errorf("replica %d: %v", i, r)
		}
	}
	c = plays(t, 1, batchOf(t, fiveC, more, more), sends(0, 0), comes(0), goesOn(0, 1))
	if c = rounds(t, c); waiting(c.Replicas[0]) {
		t.Errorf("%v", c.Replicas[0])
	}
	has(t, c)
}

// What was forgotten stays so, and nothing more is forgotten.
func TestRoundForgetsNothing(t *testing.T) {
	c := plays(t, 2, batchOf(t, more, more), batchOf(t, more), sends(1, 0), comes(0), goesOn(1, 0), clears(1))
	c = rounds(t, c)
	if a, b := c.Replicas[0].Engine, c.Replicas[1].Engine; a.Base != 0 || b.Base != 1 || len(a.Deeds) != 2 || len(b.Deeds) != 2 {
		t.Errorf("%v", c)
	}
	has(t, rounds(t, c))
}

// A Round of what is Done changes nothing: what is done is done.
func TestDoneIsDone(t *testing.T) {
	for _, c := range clusters(t) {
		if Done(c) {
			if now := rounds(t, c); !same(now, c) || !Done(now) {
				t.Errorf("Round(%v): %v", c, now)
			}
			settles(t, c, 0)
		}
	}
}

func TestDone(t *testing.T) {
	for n := 1; n <= api.MaxReplicas; n++ {
		isDone(t, plays(t, n), true)
		isDone(t, plays(t, n, batchOf(t)), false)
		isDone(t, plays(t, n, batchOf(t, more)), false)
		c := plays(t, n, batchOf(t, more))
		for to := range n {
			isDone(t, c, false)
			c, _ = cluster.Do(c, sends(to, 0))
			isDone(t, c, false)
			c, _ = cluster.Do(c, comes(0))
			isDone(t, c, false)
			c, _ = cluster.Do(c, goesOn(to, 0))
		}
		isDone(t, c, true)
		for r := range n {
			now, _ := cluster.Do(c, clears(r))
			isDone(t, now, true)
		}
		now, _ := cluster.Do(c, batchOf(t))
		isDone(t, now, false)
	}
}

// An entry of no deed must come, too; then none waits.
func TestDoneOfNoDeeds(t *testing.T) {
	c := plays(t, 1, batchOf(t), batchOf(t), sends(0, 0), comes(0))
	isDone(t, c, false)
	c, _ = cluster.Do(c, sends(0, 1))
	isDone(t, c, false)
	c, _ = cluster.Do(c, comes(0))
	isDone(t, c, true)
}

// A packet on its way is not done, though nobody needs it.
func TestNotDoneWhilePacketsAreOnTheirWay(t *testing.T) {
	c, _ := Settle(plays(t, 2, batches(t, 3)...))
	isDone(t, c, true)
	for to := range 2 {
		for entry := range 3 {
			now, _ := cluster.Do(c, sends(to, entry))
			isDone(t, now, false)
			if after := settles(t, now, 1); !same(after, c) {
				t.Errorf("%v, not %v", after, c)
			}
			now, _ = cluster.Do(now, loses(0))
			isDone(t, now, true)
		}
	}
}

// One replica that is behind, or at which something is ready, is enough.
func TestNotDoneWhileOneReplicaIsNot(t *testing.T) {
	all, _ := Settle(plays(t, 3, batchOf(t, more), batchOf(t, fiveC)))
	for at := range 3 {
		behind, ready := cluster.Own(all), cluster.Own(all)
		behind.Replicas[at], _ = replica.Come(replica.New(), all.Log[0])
		behind.Replicas[at], _ = replica.Go(behind.Replicas[at], 0)
		isDone(t, behind, false)
		settles(t, behind, 1)
		behind.Replicas[at], _ = replica.Come(replica.New(), all.Log[1])
		isDone(t, behind, false)
		settles(t, behind, 1)
		for _, e := range all.Log {
			ready.Replicas[at], _ = replica.Come(behind.Replicas[at], e)
			behind = cluster.Own(ready)
		}
		isDone(t, ready, false)
		settles(t, ready, 1)
		ready.Replicas[at], _ = replica.Go(ready.Replicas[at], at%2)
		isDone(t, ready, false)
		ready.Replicas[at], _ = replica.Go(ready.Replicas[at], 0)
		isDone(t, ready, true)
	}
}

// A log of which nothing came needs as many Rounds as it has entries.
func TestSettle(t *testing.T) {
	for n := 1; n <= api.MaxReplicas; n++ {
		for entries := range api.MaxLog + 1 {
			has(t, settles(t, plays(t, n, batches(t, entries)...), entries))
		}
	}
}

// A log as full as it may be, of as many deeds as there may be.
func TestSettleOfAllThatMayBe(t *testing.T) {
	var l []api.Step
	for i := range api.MaxLog {
		var some []string
		for k := range api.MaxBatch {
			some = append(some, texts()[(i+k)%len(texts())])
		}
		l = append(l, batchOf(t, some...))
	}
	has(t, settles(t, plays(t, 3, l...), api.MaxLog))
}

// What came helps, and what is on its way; the one that is furthest behind
// tells how many Rounds are needed.
func TestSettleOfWhatIsBegun(t *testing.T) {
	l := append(batches(t, 6), sends(0, 0), sends(0, 1), sends(0, 2), sends(1, 1), sends(1, 2), sends(1, 3))
	has(t, settles(t, plays(t, 1, l[:9]...), 3))
	has(t, settles(t, plays(t, 2, l...), 3))
	has(t, settles(t, plays(t, 3, l...), 6))
	has(t, settles(t, plays(t, 2, append(l, loses(3))...), 4))
	has(t, settles(t, plays(t, 2, append(l, loses(5), loses(3), comes(3))...), 5))
}

// Whatever went before, and whatever was lost: all comes at last, it is the same
// everywhere, and what was done is done as it was.
func TestAllComesAtLast(t *testing.T) {
	rowsSeen := map[int]int{}
	for seed := range 120 {
		next := picker(seed)
		c, _ := cluster.New(1 + seed%3)
		for range next(160) {
			c, _ = cluster.Do(c, anyStep(t, c, next))
		}
		was, done := cluster.Own(c), Done(c)
		got, many := Settle(c)
		if many > api.MaxLog || (many == 0) != done || !Done(got) || !sameEntries(got.Log, was.Log) {
			t.Fatalf("seed %d: Settle(%v): %d %v", seed, c, many, got)
		}
		has(t, settles(t, c, many))
		for i, r := range was.Replicas {
			for at, state := range r.Engine.State {
				now := got.Replicas[i].Engine
				if now.Base != r.Engine.Base || state == api.DeedDone && now.Ends[at] != r.Engine.Ends[at] {
					t.Fatalf("seed %d: %v, not %v", seed, now, r.Engine)
				}
			}
		}
		rowsSeen[len(replica.Seen(got.Replicas[0]))]++
	}
	if len(rowsSeen) < 3 {
		t.Errorf("all see the same: %v", rowsSeen)
	}
}

// clusters are some of all kinds: empty, with a log, with packets, begun, done,
// and full.
func clusters(t *testing.T) []api.Cluster {
	t.Helper()
	logged := batches(t, 5)
	under := slices.Concat(logged, []api.Step{sends(1, 0), sends(0, 3), sends(1, 2), twice(1)})
	begun := slices.Concat(under, []api.Step{comes(0), comes(0), goesOn(1, 0)})
	done, _ := Settle(plays(t, 2, logged...))
	cleared, _ := cluster.Do(done, clears(0))
	full := batches(t, api.MaxLog)
	for n := range api.MaxNet {
		full = append(full, sends(n%2, n*5%api.MaxLog))
	}
	return []api.Cluster{
		{}, plays(t, 1), plays(t, 3), plays(t, 2, logged...), plays(t, 2, under...), plays(t, 2, begun...), done, cleared, plays(t, 2, full...),
	}
}

// room answers l with spare room behind it, in which x stands.
func room[T any](l []T, x T) []T {
	whole := append(append(make([]T, 0, len(l)+2), l...), x, x)
	return whole[:len(l)]
}

func roomyDeeds(l []api.Deed) []api.Deed {
	var out []api.Deed
	for _, d := range l {
		out = append(out, api.Deed{
			Reads:  room(d.Reads, "spare"),
			Writes: room(d.Writes, "spare"),
			Code:   room(d.Code, api.Instr{Kind: api.InFail}),
		})
	}
	return room(out, api.Deed{Writes: []string{"spare"}})
}

func roomyEntries(l []api.Entry) []api.Entry {
	var out []api.Entry
	for _, e := range l {
		out = append(out, api.Entry{Number: e.Number, Deeds: roomyDeeds(e.Deeds)})
	}
	return room(out, api.Entry{Number: len(l)})
}

func roomyReplica(r api.Replica) api.Replica {
	e := r.Engine
	var chains []api.Chain
	for _, c := range e.Chains {
		chains = append(chains, api.Chain{Key: c.Key, Versions: room(c.Versions, api.Version{By: 99, N: 99})})
	}
	return api.Replica{Next: r.Next, Early: roomyEntries(r.Early), Engine: api.Engine{
		Chains: room(chains, api.Chain{Key: "spare"}),
		Deeds:  roomyDeeds(e.Deeds),
		State:  room(e.State, api.DeedWaits),
		Ends:   room(e.Ends, api.Done{Failed: true}),
		Base:   e.Base,
	}}
}

// roomy answers c with spare room behind each of its lists.
func roomy(c api.Cluster) api.Cluster {
	out := api.Cluster{Log: roomyEntries(c.Log)}
	for _, r := range c.Replicas {
		out.Replicas = append(out.Replicas, roomyReplica(r))
	}
	out.Replicas = room(out.Replicas, api.Replica{Next: 99})
	for _, p := range c.Net {
		out.Net = append(out.Net, api.Packet{To: p.To, Data: room(p.Data, 99)})
	}
	out.Net = room(out.Net, api.Packet{Data: log.Bytes(api.Entry{})})
	return out
}

func whole[T any](l []T) []T { return slices.Clone(l[:cap(l)]) }

func wholeDeeds(l []api.Deed) []api.Deed {
	all := whole(l)
	for i, d := range all {
		all[i] = api.Deed{Reads: whole(d.Reads), Writes: whole(d.Writes), Code: whole(d.Code)}
	}
	return all
}

func wholeEntries(l []api.Entry) []api.Entry {
	all := whole(l)
	for i, e := range all {
		all[i].Deeds = wholeDeeds(e.Deeds)
	}
	return all
}

// wholeOf answers a copy of c, with all the spare room that it has.
func wholeOf(c api.Cluster) api.Cluster {
	out := api.Cluster{Log: wholeEntries(c.Log), Replicas: whole(c.Replicas), Net: whole(c.Net)}
	for i, r := range out.Replicas {
		e := r.Engine
		chains := whole(e.Chains)
		for k, c := range chains {
			chains[k].Versions = whole(c.Versions)
		}
		out.Replicas[i] = api.Replica{Next: r.Next, Early: wholeEntries(r.Early), Engine: api.Engine{
			Chains: chains, Deeds: wholeDeeds(e.Deeds), State: whole(e.State), Ends: whole(e.Ends), Base: e.Base,
		}}
	}
	for i, p := range out.Net {
		out.Net[i].Data = whole(p.Data)
	}
	return out
}

// fill writes x over all of l, its spare room too.
func fill[T any](l []T, x T) {
	l = l[:cap(l)]
	for i := range l {
		l[i] = x
	}
}

func blotDeeds(l []api.Deed) {
	for _, d := range l[:cap(l)] {
		fill(d.Reads, "blot")
		fill(d.Writes, "blot")
		fill(d.Code, api.Instr{Kind: 77})
	}
	fill(l, api.Deed{})
}

func blotEntries(l []api.Entry) {
	for _, e := range l[:cap(l)] {
		blotDeeds(e.Deeds)
	}
	fill(l, api.Entry{Number: 77})
}

// blot writes over all of c, its spare room too.
func blot(c api.Cluster) {
	blotEntries(c.Log)
	for _, r := range c.Replicas[:cap(c.Replicas)] {
		for _, l := range r.Engine.Chains[:cap(r.Engine.Chains)] {
			fill(l.Versions, api.Version{By: 77, N: 77})
		}
		blotEntries(r.Early)
		blotDeeds(r.Engine.Deeds)
		fill(r.Engine.Chains, api.Chain{Key: "blot"})
		fill(r.Engine.State, 77)
		fill(r.Engine.Ends, api.Done{Failed: true, Regs: [4]int{77}})
	}
	for _, p := range c.Net[:cap(c.Net)] {
		fill(p.Data, 77)
	}
	fill(c.Replicas, api.Replica{Next: 77})
	fill(c.Net, api.Packet{To: 77})
}

// call answers a cluster, and a number, of one that it is handed.
type call struct {
	name string
	of   func(c api.Cluster) (api.Cluster, int)
}

func calls() []call {
	return []call{
		{"Round", func(c api.Cluster) (api.Cluster, int) { return Round(c), 0 }},
		{"Settle", Settle},
		{"Done", func(c api.Cluster) (api.Cluster, int) {
			if Done(c) {
				return api.Cluster{}, 1
			}
			return api.Cluster{}, 0
		}},
	}
}

func TestNothingIsShared(t *testing.T) {
	for _, f := range calls() {
		for _, tight := range clusters(t) {
			c := roomy(tight)
			before := wholeOf(c)
			unchanged := func(what string) {
				t.Helper()
				if now := wholeOf(c); !reflect.DeepEqual(now, before) {
					t.Fatalf("%s %s: %v, not %v", f.name, what, now, before)
				}
			}
			want, many := f.of(cluster.Own(tight))
			got, n := f.of(c)
			unchanged("changes what it is handed")
			if !same(got, want) || n != many {
				t.Fatalf("%s looks at the spare room: %d %v, not %d %v", f.name, n, got, many, want)
			}
			blot(got)
			unchanged("answers what it is handed")
			got, _ = f.of(c)
			blot(c)
			if !same(got, want) {
				t.Fatalf("%s keeps what it is handed: %v, not %v", f.name, got, want)
			}
		}
	}
}

// steps are some of all kinds, right and wrong ones.
func steps(t *testing.T) []api.Step {
	t.Helper()
	return []api.Step{
		batchOf(t, more, looks), {}, batchOf(t), {Kind: api.StepBatch, Deeds: wrongDeeds()}, sends(0, 0), sends(0, 1), twice(0),
		comes(1), comes(0), batchOf(t, more, fiveC, move), sends(1, 2), goesOn(0, 0), clears(0), goesOn(3, 0), loses(0), comes(7), sends(1, 1),
	}
}

func TestPlaySharesNothing(t *testing.T) {
	tight := steps(t)
	want, wants, _ := Play(2, tight)
	l := room(slices.Clone(tight), api.Step{Kind: 77})
	for i, s := range l {
		l[i].Deeds = roomyDeeds(s.Deeds)
	}
	wholeSteps := func() []api.Step {
		all := whole(l)
		for i, s := range all {
			all[i].Deeds = wholeDeeds(s.Deeds)
		}
		return all
	}
	before := wholeSteps()
	blotSteps := func() {
		for _, s := range l {
			blotDeeds(s.Deeds)
		}
		fill(l, api.Step{Kind: 77})
	}
	got, told, errno := Play(2, l)
	if errno != api.OK || !same(got, want) || !slices.Equal(told, wants) || !reflect.DeepEqual(wholeSteps(), before) {
		t.Fatalf("%v %v %d, not %v %v", got, told, errno, want, wants)
	}
	blot(got)
	fill(told, 77)
	if !reflect.DeepEqual(wholeSteps(), before) {
		t.Fatalf("%v, not %v", wholeSteps(), before)
	}
	got, told, _ = Play(2, l)
	blotSteps()
	if !same(got, want) || !slices.Equal(told, wants) {
		t.Errorf("%v %v, not %v %v", got, told, want, wants)
	}
}

func longerDeeds(l []api.Deed) {
	for _, d := range l {
		_, _ = append(d.Reads, "more", "more"), append(d.Writes, "more", "more")
		_ = append(d.Code, api.Instr{Kind: 88}, api.Instr{Kind: 89})
	}
	_ = append(l, api.Deed{}, api.Deed{})
}

func longerEntries(l []api.Entry) {
	for _, e := range l {
		longerDeeds(e.Deeds)
	}
	_ = append(l, api.Entry{}, api.Entry{})
}

// longer makes each list of c longer, as whoever has it may.
func longer(c api.Cluster) {
	longerEntries(c.Log)
	for _, r := range c.Replicas {
		for _, l := range r.Engine.Chains {
			_ = append(l.Versions, api.Version{By: 88}, api.Version{By: 89})
		}
		_ = append(r.Engine.Chains, api.Chain{Key: "more"}, api.Chain{Key: "more"})
		_, _ = append(r.Engine.State, 88, 89), append(r.Engine.Ends, api.Done{Failed: true})
		longerDeeds(r.Engine.Deeds)
		longerEntries(r.Early)
	}
	for _, p := range c.Net {
		_ = append(p.Data, 88, 89)
	}
	_, _ = append(c.Replicas, api.Replica{Next: 88}), append(c.Net, api.Packet{To: 88})
}

// Whoever makes one list of an answer longer does not write into another one.
func TestListsOfAnAnswerAreApart(t *testing.T) {
	apart := func(name string, got api.Cluster) {
		t.Helper()
		want := cluster.Own(got)
		longer(got)
		if !same(got, want) {
			t.Fatalf("%s: %v, not %v", name, got, want)
		}
	}
	for _, f := range calls() {
		for _, c := range clusters(t) {
			got, _ := f.of(c)
			apart(f.name, got)
		}
	}
	got, _, _ := Play(2, steps(t))
	apart("Play", got)
}

// What replicas have, that got it of one log, is their own.
func TestReplicasAreApart(t *testing.T) {
	got, _ := Settle(plays(t, 3, batches(t, 4)...))
	want := cluster.Own(got)
	blot(api.Cluster{Replicas: []api.Replica{got.Replicas[1]}})
	got.Replicas[1] = want.Replicas[1]
	if !same(got, want) {
		t.Errorf("%v, not %v", got, want)
	}
}

// Of one cluster what comes is the same, however often it is asked.
func TestAskedAgain(t *testing.T) {
	for _, f := range calls() {
		for _, c := range clusters(t) {
			a, n := f.of(c)
			if b, m := f.of(c); n != m || !same(a, b) {
				t.Errorf("%s(%v): %d %v, then %d %v", f.name, c, n, a, m, b)
			}
		}
	}
}

// Where a log has what never comes, Rounds end all the same.
func TestSettleIsStopped(t *testing.T) {
	for _, l := range [][]api.Entry{
		{{Number: 1}}, {{Number: -1}}, {{Number: api.MaxLog}}, {{}, {Number: 7}}, {{Deeds: wrongDeeds()}}, make([]api.Entry, 40),
	} {
		c := api.Cluster{Log: l, Replicas: make([]api.Replica, 2)}
		settled, n := Settle(c)
		if n != api.MaxRounds || Done(settled) || !sameEntries(settled.Log, l) {
			t.Errorf("Settle(%v): %d %v", c, n, settled)
		}
	}
}

// Of what are no clusters nothing is promised but that calls end, and answer
// the same again.
func TestWrongClustersDoNotPanic(t *testing.T) {
	odd := []api.Deed{{Reads: []string{"", "a", "a"}, Writes: []string{"\xff"}}, {Code: []api.Instr{{Kind: -1, A: math.MaxInt}}}, {}}
	chains := []api.Chain{{Key: "b", Versions: []api.Version{{By: 9}, {By: -9}}}, {Key: "a"}}
	logs := [][]api.Entry{
		nil,
		{{Number: 7, Deeds: odd}, {Number: math.MinInt}, {Number: 256}},
		append(make([]api.Entry, 40), api.Entry{Deeds: odd}),
	}
	replicas := [][]api.Replica{
		nil,
		{{Next: math.MaxInt}, {Next: math.MinInt, Early: []api.Entry{{Number: 1, Deeds: odd}, {}, {}}}},
		{{Engine: api.Engine{Deeds: odd, State: make([]int, 9), Ends: make([]api.Done, 1)}}, {}, {}, {}, {}},
		{{Engine: api.Engine{Deeds: odd, State: make([]int, 3), Ends: make([]api.Done, 3)}}},
		{{Engine: api.Engine{Chains: chains, Deeds: odd, State: []int{1, 0, 5}, Ends: make([]api.Done, 3), Base: math.MaxInt}}},
		{{Engine: api.Engine{Chains: chains, Deeds: odd, State: make([]int, 3), Ends: make([]api.Done, 3), Base: math.MinInt}}},
	}
	entry := api.Entry{Number: 1, Deeds: readAll(t, more)}
	nets := [][]api.Packet{
		nil,
		{{To: -1}, {To: 1, Data: []byte("\x01\x02")}, {To: math.MaxInt, Data: log.Bytes(api.Entry{})}},
		{{Data: log.Bytes(api.Entry{})}, {Data: log.Bytes(entry)}, {To: 1, Data: log.Bytes(entry)}},
		make([]api.Packet, 99),
	}
	for _, l := range logs {
		for _, some := range replicas {
			for _, net := range nets {
				c := api.Cluster{Log: l, Replicas: some, Net: net}
				before := wholeOf(c)
				for _, f := range calls() {
					a, n := f.of(c)
					if b, m := f.of(c); n != m || !same(a, b) || n > api.MaxRounds || len(a.Net) > 0 {
						t.Fatalf("%s(%v): %d %v, then %d %v", f.name, c, n, a, m, b)
					}
				}
				if !reflect.DeepEqual(wholeOf(c), before) {
					t.Errorf("changed: %v, not %v", c, before)
				}
			}
		}
	}
}

// A step that is none is told, and the others are done.
func TestWrongStepsDoNotPanic(t *testing.T) {
	odd := []int{0, 1, -1, 3, 16, math.MinInt, math.MaxInt}
	for kind := -1; kind <= 9; kind++ {
		l := []api.Step{batchOf(t, more)}
		for _, n := range odd {
			for _, m := range odd {
				l = append(l, api.Step{Kind: kind, N: n, M: m, Deeds: wrongDeeds()})
			}
		}
		l = append(l, batchOf(t, fiveC))
		c, told, errno := Play(2, l)
		if errno != api.OK || len(told) != len(l) || told[0] != api.OK || told[len(l)-1] != api.OK || len(c.Log) != 2 {
			t.Errorf("kind %d: %v %d", kind, told, errno)
		}
	}
}
