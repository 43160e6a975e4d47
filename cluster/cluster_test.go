package cluster

import (
	"bytes"
	"math"
	"reflect"
	"slices"
	"testing"

	"rankandfile/api"
	"rankandfile/deed"
	"rankandfile/log"
	"rankandfile/plain"
	"rankandfile/replica"
	"rankandfile/run"
	"rankandfile/text"
	"rankandfile/tidy"
)

const (
	more  = "reads a; writes a; load r0 a; const r1 1; add r0 r1; store r0 a"
	pay   = "reads a b; writes a b; load r0 a; const r1 2; sub r0 r1; store r0 a; fail r0; load r2 b; add r2 r1; store r2 b"
	dropA = "reads; writes a; drop a"
	fiveC = "reads; writes c; const r0 5; store r0 c"
	looks = "reads a b c; writes; load r0 a; load r1 b; load r2 c"
	move  = "reads a; writes b a; load r0 a; store r0 b; drop a"
	none  = "reads; writes"
)

func texts() []string { return []string{more, pay, dropA, fiveC, looks, move, none} }

func readAll(t *testing.T, texts ...string) []api.Deed {
	t.Helper()
	var l []api.Deed
	for _, s := range texts {
		d, errno := text.Parse(s)
		if errno != api.OK {
			t.Fatalf("%q is no deed: %d", s, errno)
		}
		l = append(l, d)
	}
	return l
}

// of answers the entry of that number, with the deeds of these texts.
func of(t *testing.T, number int, texts ...string) api.Entry {
	t.Helper()
	return api.Entry{Number: number, Deeds: readAll(t, texts...)}
}

// Steps, by their names.
func batchOf(t *testing.T, texts ...string) api.Step {
	t.Helper()
	return api.Step{Kind: api.StepBatch, Deeds: readAll(t, texts...)}
}

func sends(to, entry int) api.Step { return api.Step{Kind: api.StepSend, N: to, M: entry} }
func comes(n int) api.Step         { return api.Step{Kind: api.StepCome, N: n} }
func loses(n int) api.Step         { return api.Step{Kind: api.StepLose, N: n} }
func twice(n int) api.Step         { return api.Step{Kind: api.StepTwice, N: n} }
func goesOn(r, n int) api.Step     { return api.Step{Kind: api.StepRun, N: r, M: n} }
func clears(r int) api.Step        { return api.Step{Kind: api.StepClear, N: r} }

func newOne(t *testing.T, n int) api.Cluster {
	t.Helper()
	c, errno := New(n)
	if errno != api.OK {
		t.Fatalf("New(%d): %d", n, errno)
	}
	return c
}

// does does these steps, one behind the other, each of which can be done.
func does(t *testing.T, c api.Cluster, l ...api.Step) api.Cluster {
	t.Helper()
	for _, s := range l {
		now, errno := Do(c, s)
		if errno != api.OK {
			t.Fatalf("Do(%v, %v): %d", c, s, errno)
		}
		c = now
	}
	return c
}

// delivers has these entries of the log come to that replica, in turn, and
// leaves nothing on its way behind.
func delivers(t *testing.T, c api.Cluster, to int, entries ...int) api.Cluster {
	t.Helper()
	for _, entry := range entries {
		c = does(t, c, sends(to, entry), comes(len(c.Net)))
	}
	return c
}

func sameEntries(a, b []api.Entry) bool {
	return slices.EqualFunc(a, b, func(x, y api.Entry) bool {
		return x.Number == y.Number && slices.EqualFunc(x.Deeds, y.Deeds, deed.Same)
	})
}

func sameReplicas(a, b api.Replica) bool {
	x, y := a.Engine, b.Engine
	chains := slices.EqualFunc(x.Chains, y.Chains, func(l, m api.Chain) bool {
		return l.Key == m.Key && slices.Equal(l.Versions, m.Versions)
	})
	return chains && slices.EqualFunc(x.Deeds, y.Deeds, deed.Same) &&
		slices.Equal(x.State, y.State) && slices.Equal(x.Ends, y.Ends) && x.Base == y.Base &&
		a.Next == b.Next && sameEntries(a.Early, b.Early)
}

func samePackets(a, b api.Packet) bool { return a.To == b.To && bytes.Equal(a.Data, b.Data) }

func same(a, b api.Cluster) bool {
	return sameEntries(a.Log, b.Log) && slices.EqualFunc(a.Replicas, b.Replicas, sameReplicas) &&
		slices.EqualFunc(a.Net, b.Net, samePackets)
}

// refuses looks that s can't be done, and why, and that c is as it was.
func refuses(t *testing.T, c api.Cluster, s api.Step, want api.Errno) {
	t.Helper()
	if now, errno := Do(c, s); errno != want || !same(now, c) {
		t.Errorf("Do(%v, %v): %d %v, not %d", c, s, errno, now, want)
	}
}

// becomes looks that s can be done, and what comes of it.
func becomes(t *testing.T, c api.Cluster, s api.Step, want api.Cluster) {
	t.Helper()
	if now, errno := Do(c, s); errno != api.OK || !same(now, want) {
		t.Errorf("Do(%v, %v): %d %v, not %v", c, s, errno, now, want)
	}
}

// packet answers the packet of that entry to that replica.
func packet(to int, e api.Entry) api.Packet { return api.Packet{To: to, Data: log.Bytes(e)} }

// filled answers a cluster of that many replicas, with a log of that many
// entries, of no deed to three ones.
func filled(t *testing.T, replicas, entries int) api.Cluster {
	t.Helper()
	c := newOne(t, replicas)
	for i := range entries {
		var some []string
		for k := range (i*3 + 2) % 4 {
			some = append(some, texts()[(i*2+k)%len(texts())])
		}
		c = does(t, c, batchOf(t, some...))
	}
	return c
}

func TestNew(t *testing.T) {
	for _, n := range []int{1, 2, 3} {
		c, errno := New(n)
		if errno != api.OK || len(c.Replicas) != n || len(c.Log) != 0 || len(c.Net) != 0 {
			t.Fatalf("New(%d): %d %v", n, errno, c)
		}
		for _, r := range c.Replicas {
			if !sameReplicas(r, replica.New()) {
				t.Errorf("New(%d) has %v", n, r)
			}
		}
	}
	for _, n := range []int{0, 4, 5, -1, -3, math.MinInt, math.MaxInt} {
		if c, errno := New(n); errno != api.ErrRange || !reflect.DeepEqual(c, api.Cluster{}) {
			t.Errorf("New(%d): %d %v", n, errno, c)
		}
	}
}

func TestPacketThatComes(t *testing.T) {
	c := does(t, newOne(t, 2), batchOf(t, more, fiveC), sends(1, 0))
	if want := (api.Cluster{Log: []api.Entry{of(t, 0, more, fiveC)}, Replicas: []api.Replica{{}, {}}, Net: []api.Packet{packet(1, of(t, 0, more, fiveC))}}); !same(c, want) {
		t.Fatalf("%v, not %v", c, want)
	}
	c = does(t, c, comes(0))
	has, _ := replica.Come(replica.New(), of(t, 0, more, fiveC))
	if want := (api.Cluster{Log: []api.Entry{of(t, 0, more, fiveC)}, Replicas: []api.Replica{{}, has}}); !same(c, want) {
		t.Errorf("%v, not %v", c, want)
	}
}

// The last entry's number is how many there were, whatever the step has else.
func TestBatch(t *testing.T) {
	c := newOne(t, 1)
	var want []api.Entry
	for i, some := range [][]string{{more}, nil, {more, pay, dropA, fiveC, looks, move}, {none, none}} {
		s := batchOf(t, some...)
		s.N, s.M = 9-i, -i
		want = append(want, of(t, i, some...))
		becomes(t, c, s, api.Cluster{Log: want, Replicas: c.Replicas})
		c = does(t, c, s)
	}
	becomes(t, c, api.Step{Kind: api.StepBatch, Deeds: []api.Deed{}}, api.Cluster{Log: append(want, api.Entry{Number: 4}), Replicas: c.Replicas})
}

func TestBatchChangesNothingElse(t *testing.T) {
	c := delivers(t, filled(t, 2, 5), 0, 0, 3)
	c = does(t, c, sends(1, 2), sends(0, 1))
	becomes(t, c, batchOf(t, move), api.Cluster{Log: append(log.Own(c.Log), of(t, 5, move)), Replicas: c.Replicas, Net: c.Net})
}

func wrongDeeds() []api.Deed {
	return []api.Deed{
		{Reads: []string{"A"}},
		{Writes: []string{"a", "a"}},
		{Reads: []string{"a", "b", "c", "d", "e", "f"}},
		{Code: []api.Instr{{}}},
		{Code: []api.Instr{{Kind: api.InFail, A: api.MaxRegs}}},
		{Code: []api.Instr{{Kind: api.InLoad, Key: "a"}}},
		{Code: []api.Instr{{Kind: api.InFail, Key: "a"}}},
	}
}

func TestWrongBatch(t *testing.T) {
	for _, entries := range []int{0, 1, 11} {
		c := filled(t, 2, entries)
		refuses(t, c, batchOf(t, more, more, more, more, more, more, more), api.ErrMany)
		for _, d := range wrongDeeds() {
			want := deed.Wrong(d)
			if want == api.OK {
				t.Fatalf("%v is right", d)
			}
			refuses(t, c, api.Step{Kind: api.StepBatch, Deeds: []api.Deed{d}}, want)
			refuses(t, c, api.Step{Kind: api.StepBatch, Deeds: append(readAll(t, more, pay), d)}, want)
			refuses(t, c, api.Step{Kind: api.StepBatch, Deeds: []api.Deed{d, {Code: []api.Instr{{Kind: 77}}}}}, want)
			refuses(t, c, api.Step{Kind: api.StepBatch, Deeds: append(readAll(t, more, more, more, more, more, more), d)}, api.ErrMany)
		}
	}
}

// A log that is full is told ahead of what is wrong with the deeds.
func TestFullLog(t *testing.T) {
	c := filled(t, 1, api.MaxLog)
	if len(c.Log) != api.MaxLog || c.Log[api.MaxLog-1].Number != api.MaxLog-1 {
		t.Fatalf("%v", c.Log)
	}
	refuses(t, c, batchOf(t), api.ErrMany)
	refuses(t, c, batchOf(t, more), api.ErrMany)
	for _, d := range wrongDeeds() {
		refuses(t, c, api.Step{Kind: api.StepBatch, Deeds: []api.Deed{d}}, api.ErrMany)
	}
}

// odds are no places of lists of that length.
func odds(length int) []int {
	return []int{-1, length, length + 1, -length - 1, 255, math.MinInt, math.MaxInt}
}

func TestSend(t *testing.T) {
	c := filled(t, 3, 4)
	for to := range 3 {
		for entry := range 4 {
			s := sends(to, entry)
			s.Deeds = wrongDeeds()
			want := Own(c)
			want.Net = append(want.Net, packet(to, c.Log[entry]))
			becomes(t, c, s, want)
			c = does(t, c, s)
		}
	}
	for n := range 12 {
		if c.Net[n].To != n/4 || !bytes.Equal(c.Net[n].Data, log.Bytes(c.Log[n%4])) {
			t.Errorf("packet %d is %v", n, c.Net[n])
		}
	}
}

func TestSendOfNone(t *testing.T) {
	for _, replicas := range []int{1, 3} {
		for _, entries := range []int{0, 1, 12} {
			c := filled(t, replicas, entries)
			for _, n := range odds(replicas) {
				refuses(t, c, sends(n, 0), api.ErrNone)
			}
			for _, m := range odds(entries) {
				refuses(t, c, sends(0, m), api.ErrNone)
			}
		}
	}
}

// full answers a cluster on whose way there are MaxNet packets.
func full(t *testing.T) api.Cluster {
	t.Helper()
	c := filled(t, 2, api.MaxLog)
	for n := range api.MaxNet {
		c = does(t, c, sends(n%2, n*5%api.MaxLog))
	}
	if len(c.Net) != api.MaxNet {
		t.Fatalf("%d are on their way", len(c.Net))
	}
	return c
}

// What there is no room for is lost, and nobody is told.
func TestFullNet(t *testing.T) {
	c := full(t)
	becomes(t, c, sends(1, 11), c)
	becomes(t, c, sends(0, 0), c)
	for n := range api.MaxNet {
		becomes(t, c, twice(n), c)
	}
	refuses(t, c, sends(2, 0), api.ErrNone)
	refuses(t, c, sends(0, 12), api.ErrNone)
	for _, n := range odds(api.MaxNet) {
		refuses(t, c, twice(n), api.ErrNone)
	}
	c = does(t, c, loses(3))
	want := Own(c)
	want.Net = append(want.Net, packet(1, c.Log[11]))
	becomes(t, c, sends(1, 11), want)
	want.Net[15] = want.Net[7]
	becomes(t, c, twice(7), want)
}

func TestPacketsOfNone(t *testing.T) {
	c := filled(t, 2, 3)
	for range 4 {
		for _, n := range odds(len(c.Net)) {
			refuses(t, c, comes(n), api.ErrNone)
			refuses(t, c, loses(n), api.ErrNone)
			refuses(t, c, twice(n), api.ErrNone)
		}
		c = does(t, c, sends(1, 2))
	}
}

func TestLose(t *testing.T) {
	c := does(t, filled(t, 2, 3), sends(0, 0), sends(1, 1), sends(0, 2))
	for n := range 3 {
		want := Own(c)
		want.Net = slices.Delete(want.Net, n, n+1)
		s := loses(n)
		s.M, s.Deeds = 7, wrongDeeds()
		becomes(t, c, s, want)
	}
	if c = does(t, c, loses(1), loses(0), loses(0)); len(c.Net) != 0 || c.Replicas[0].Next != 0 {
		t.Errorf("%v", c)
	}
}

func TestTwice(t *testing.T) {
	c := does(t, filled(t, 2, 3), sends(0, 0), sends(1, 1), sends(0, 2))
	for n := range 3 {
		want := Own(c)
		want.Net = append(want.Net, want.Net[n])
		s := twice(n)
		s.M, s.Deeds = 7, wrongDeeds()
		becomes(t, c, s, want)
	}
	becomes(t, c, twice(0), does(t, c, sends(0, 0)))
}

// A packet goes when it comes, and only its replica has the entry then.
func TestCome(t *testing.T) {
	c := does(t, filled(t, 3, 3), sends(0, 0), sends(2, 1), sends(1, 0), sends(2, 0))
	for n := range 4 {
		want := Own(c)
		p := c.Net[n]
		e, _ := log.Parse(p.Data)
		want.Net = slices.Delete(want.Net, n, n+1)
		want.Replicas[p.To], _ = replica.Come(c.Replicas[p.To], e)
		s := comes(n)
		s.M, s.Deeds = 7, wrongDeeds()
		becomes(t, c, s, want)
	}
	c = does(t, c, comes(1))
	if r := c.Replicas[2]; r.Next != 0 || !sameEntries(r.Early, c.Log[1:2]) {
		t.Errorf("%v", r)
	}
	c = does(t, c, comes(2))
	if r := c.Replicas[2]; r.Next != 2 || len(r.Early) != 0 || len(c.Net) != 2 {
		t.Errorf("%v", c)
	}
}

// Whatever a replica tells of an entry, the packet came.
func TestComeOfWhatIsNotTaken(t *testing.T) {
	c := delivers(t, filled(t, 2, 12), 1, 0, 1, 4, 6, 8, 10)
	for _, x := range []struct {
		entry int
		want  api.Errno
	}{{0, api.ErrDone}, {1, api.ErrDone}, {6, api.ErrDone}, {3, api.ErrMany}, {11, api.ErrMany}} {
		if _, errno := replica.Come(c.Replicas[1], c.Log[x.entry]); errno != x.want {
			t.Fatalf("Come of %d: %d", x.entry, errno)
		}
		becomes(t, does(t, c, sends(1, x.entry)), comes(0), c)
	}
	if c = delivers(t, c, 1, 2); c.Replicas[1].Next != 3 {
		t.Errorf("%v", c.Replicas[1])
	}
}

// What was on its way twice has been done once.
func TestTwiceIsOnce(t *testing.T) {
	c := does(t, filled(t, 1, 4), sends(0, 2), sends(0, 0), sends(0, 1), sends(0, 3))
	once := does(t, c, comes(0), comes(0), comes(0), comes(0))
	often := does(t, c, twice(0), twice(1), twice(2), twice(3), twice(4))
	for len(often.Net) > 0 {
		often = does(t, often, comes(len(often.Net)*3/4))
	}
	if !same(often, once) || once.Replicas[0].Next != 4 {
		t.Errorf("%v, not %v", often, once)
	}
}

func TestRun(t *testing.T) {
	c := does(t, newOne(t, 3), batchOf(t, more, pay, fiveC, none), sends(0, 0), sends(2, 0), sends(2, 0))
	c = does(t, c, comes(0), comes(0))
	for _, n := range []int{0, 2} {
		for m := range 3 {
			want := Own(c)
			want.Replicas[n], _ = replica.Go(c.Replicas[n], m)
			s := goesOn(n, m)
			s.Deeds = wrongDeeds()
			becomes(t, c, s, want)
		}
		for _, m := range odds(3) {
			refuses(t, c, goesOn(n, m), api.ErrNone)
		}
	}
	refuses(t, c, goesOn(1, 0), api.ErrNone)
	c = does(t, c, goesOn(2, 2), goesOn(2, 0), goesOn(2, 1))
	if seen := replica.Seen(c.Replicas[2]); !slices.Equal(seen, api.Rows{{Key: "a", N: 1}}) || c.Replicas[2].Engine.State[1] != api.DeedWaits {
		t.Errorf("%v", seen)
	}
	c = does(t, c, goesOn(2, 0))
	refuses(t, c, goesOn(2, 0), api.ErrNone)
	if len(run.Ready(c.Replicas[0].Engine)) != 3 {
		t.Errorf("%v", c.Replicas[0])
	}
}

func TestClear(t *testing.T) {
	c := delivers(t, filled(t, 2, 3), 1, 0, 1, 2)
	becomes(t, c, clears(1), c)
	becomes(t, c, clears(0), c)
	for range len(c.Replicas[1].Engine.Deeds) {
		c = does(t, c, goesOn(1, 0))
		want := Own(c)
		want.Replicas[1] = replica.Clear(c.Replicas[1])
		s := clears(1)
		s.M, s.Deeds = -7, wrongDeeds()
		becomes(t, c, s, want)
		becomes(t, c, clears(0), c)
	}
	if now := does(t, c, clears(1)); now.Replicas[1].Engine.Base != len(c.Replicas[1].Engine.Deeds) || now.Replicas[1].Engine.Base == 0 {
		t.Errorf("%v", now)
	}
}

func TestReplicasOfNone(t *testing.T) {
	for replicas := 1; replicas <= api.MaxReplicas; replicas++ {
		c := filled(t, replicas, 1)
		for to := range replicas {
			c = delivers(t, c, to, 0)
		}
		for _, n := range odds(replicas) {
			refuses(t, c, goesOn(n, 0), api.ErrNone)
			refuses(t, c, clears(n), api.ErrNone)
		}
	}
}

func TestKindsThatAreNone(t *testing.T) {
	c := does(t, delivers(t, filled(t, 2, 2), 0, 0), sends(1, 1))
	for _, kind := range []int{0, 8, 9, -1, -7, 257, math.MinInt, math.MaxInt} {
		refuses(t, c, api.Step{Kind: kind}, api.ErrKind)
		refuses(t, c, api.Step{Kind: kind, N: 99, M: -1, Deeds: wrongDeeds()}, api.ErrKind)
		refuses(t, filled(t, 1, api.MaxLog), api.Step{Kind: kind}, api.ErrKind)
	}
}

// picker answers a function that picks numbers from 0 on, that differ from
// seed to seed.
func picker(seed int) func(many int) int {
	turn := seed
	return func(many int) int {
		turn = (turn*1103515245 + 12345) % (1 << 31)
		return turn >> 8 % many
	}
}

// sent is a packet that is on its way.
type sent struct{ to, entry int }

// book has what a cluster must be, told without bytes.
type book struct {
	log      []api.Entry
	replicas []api.Replica
	net      []sent
}

// step does s in the book, that must be its caller's own.
func (b *book) step(s api.Step) api.Errno {
	is := func(n, length int) bool { return 0 <= n && n < length }
	switch s.Kind {
	case api.StepBatch:
		e := api.Entry{Number: len(b.log), Deeds: s.Deeds}
		if len(b.log) == 12 {
			return api.ErrMany
		}
		if errno := log.Wrong(e); errno != api.OK {
			return errno
		}
		b.log = append(b.log, e)
	case api.StepSend:
		if !is(s.N, len(b.replicas)) || !is(s.M, len(b.log)) {
			return api.ErrNone
		}
		b.net = append(b.net, sent{s.N, s.M})
	case api.StepCome, api.StepLose, api.StepTwice:
		if !is(s.N, len(b.net)) {
			return api.ErrNone
		}
		p := b.net[s.N]
		switch s.Kind {
		case api.StepTwice:
			b.net = append(b.net, p)
		case api.StepCome:
			b.replicas[p.to], _ = replica.Come(b.replicas[p.to], b.log[p.entry])
			fallthrough
		default:
			b.net = slices.Delete(b.net, s.N, s.N+1)
		}
	case api.StepRun, api.StepClear:
		if !is(s.N, len(b.replicas)) {
			return api.ErrNone
		}
		if s.Kind == api.StepClear {
			b.replicas[s.N] = replica.Clear(b.replicas[s.N])
			break
		}
		now, errno := replica.Go(b.replicas[s.N], s.M)
		b.replicas[s.N] = now
		return errno
	default:
		return api.ErrKind
	}
	b.net = b.net[:min(len(b.net), 16)]
	return api.OK
}

// cluster answers the cluster that the book tells of.
func (b *book) cluster() api.Cluster {
	c := api.Cluster{Log: b.log, Replicas: b.replicas}
	for _, p := range b.net {
		c.Net = append(c.Net, packet(p.to, b.log[p.entry]))
	}
	return c
}

// anyStep answers a step that may be right or wrong.
func anyStep(t *testing.T, c api.Cluster, next func(many int) int) api.Step {
	t.Helper()
	s := api.Step{Kind: next(9), N: next(len(c.Replicas)+2) - 1, M: next(len(c.Log)+2) - 1}
	switch s.Kind {
	case api.StepCome, api.StepLose, api.StepTwice:
		s.N = next(len(c.Net)+2) - 1
	case api.StepRun:
		s.M = next(5) - 1
	case api.StepBatch:
		for range next(8) {
			s.Deeds = append(s.Deeds, readAll(t, texts()[next(len(texts()))])...)
		}
		if next(8) == 0 {
			s.Deeds = append(s.Deeds, wrongDeeds()[next(len(wrongDeeds()))])
		}
	}
	return s
}

// wasSo looks that r is not ahead of the log, and that what it sees was so,
// one by one.
func wasSo(t *testing.T, r api.Replica, l []api.Entry) {
	t.Helper()
	ahead := func(e api.Entry) bool {
		return e.Number >= len(l) || !sameEntries(l[e.Number:e.Number+1], []api.Entry{e})
	}
	if r.Next > len(l) || slices.ContainsFunc(r.Early, ahead) {
		t.Fatalf("%v is ahead of %v", r, l)
	}
	var deeds []api.Deed
	for _, e := range l[:r.Next] {
		deeds = append(deeds, e.Deeds...)
	}
	at := r.Engine.Base + tidy.Mark(r.Engine)
	if rows, _ := plain.All(nil, deeds[:at]); !slices.Equal(replica.Seen(r), rows) {
		t.Fatalf("%v sees %v, not %v", r, replica.Seen(r), rows)
	}
}

// Each of many steps does what the book tells; none of the replicas is ahead of
// the log, and what they see was so.
func TestManySteps(t *testing.T) {
	told := map[api.Errno]int{}
	for seed := range 80 {
		next := picker(seed)
		c := newOne(t, 1+seed%3)
		b := &book{replicas: Own(c).Replicas}
		for range 250 {
			s := anyStep(t, c, next)
			before := Own(c)
			now, errno := Do(c, s)
			if want := b.step(s); errno != want || !same(now, b.cluster()) {
				t.Fatalf("seed %d: Do(%v, %v): %d %v, not %d %v", seed, c, s, errno, now, want, b.cluster())
			}
			if errno != api.OK && !same(now, before) {
				t.Fatalf("seed %d: Do(%v, %v): %d %v", seed, c, s, errno, now)
			}
			c = now
			told[errno]++
			for _, r := range c.Replicas {
				wasSo(t, r, c.Log)
			}
		}
	}
	for _, errno := range []api.Errno{api.OK, api.ErrKind, api.ErrMany, api.ErrNone, api.ErrName, api.ErrRange, api.ErrKey} {
		if told[errno] == 0 {
			t.Errorf("none told %d", errno)
		}
	}
}

// clusters are some of all kinds: empty, with a log, with packets, begun, done,
// and full.
func clusters(t *testing.T) []api.Cluster {
	t.Helper()
	logged := filled(t, 2, 5)
	under := does(t, logged, sends(1, 0), sends(0, 3), sends(1, 2), twice(1))
	begun := does(t, under, comes(0), comes(0), goesOn(1, 0))
	done := delivers(t, logged, 0, 4, 3, 2, 1, 0)
	for range len(done.Replicas[0].Engine.Deeds) {
		done = does(t, done, goesOn(0, 0))
	}
	return []api.Cluster{{}, newOne(t, 1), newOne(t, 3), logged, under, begun, done, does(t, done, clears(0)), full(t)}
}

func TestOwn(t *testing.T) {
	for _, c := range clusters(t) {
		if got := Own(c); !same(got, c) {
			t.Errorf("Own(%v): %v", c, got)
		}
	}
}

// room answers l with spare room behind it, in which x stands.
func room[T any](l []T, x T) []T {
	whole := append(append(make([]T, 0, len(l)+2), l...), x, x)
	return whole[:len(l)]
}

func roomyDeeds(l []api.Deed) []api.Deed {
	var out []api.Deed
	for _, d := range l {
		out = append(out, api.Deed{
			Reads:  room(d.Reads, "spare"),
			Writes: room(d.Writes, "spare"),
			Code:   room(d.Code, api.Instr{Kind: api.InFail}),
		})
	}
	return room(out, api.Deed{Writes: []string{"spare"}})
}

func roomyEntries(l []api.Entry) []api.Entry {
	var out []api.Entry
	for _, e := range l {
		out = append(out, api.Entry{Number: e.Number, Deeds: roomyDeeds(e.Deeds)})
	}
	return room(out, api.Entry{Number: len(l)})
}

func roomyReplica(r api.Replica) api.Replica {
	e := r.Engine
	var chains []api.Chain
	for _, c := range e.Chains {
		chains = append(chains, api.Chain{Key: c.Key, Versions: room(c.Versions, api.Version{By: 99, N: 99})})
	}
	return api.Replica{Next: r.Next, Early: roomyEntries(r.Early), Engine: api.Engine{
		Chains: room(chains, api.Chain{Key: "spare"}),
		Deeds:  roomyDeeds(e.Deeds),
		State:  room(e.State, api.DeedWaits),
		Ends:   room(e.Ends, api.Done{Failed: true}),
		Base:   e.Base,
	}}
}

// roomy answers c with spare room behind each of its lists.
func roomy(c api.Cluster) api.Cluster {
	out := api.Cluster{Log: roomyEntries(c.Log)}
	for _, r := range c.Replicas {
		out.Replicas = append(out.Replicas, roomyReplica(r))
	}
	out.Replicas = room(out.Replicas, api.Replica{Next: 99})
	for _, p := range c.Net {
		out.Net = append(out.Net, api.Packet{To: p.To, Data: room(p.Data, 99)})
	}
	out.Net = room(out.Net, packet(0, api.Entry{}))
	return out
}

func whole[T any](l []T) []T { return slices.Clone(l[:cap(l)]) }

func wholeDeeds(l []api.Deed) []api.Deed {
	all := whole(l)
	for i, d := range all {
		all[i] = api.Deed{Reads: whole(d.Reads), Writes: whole(d.Writes), Code: whole(d.Code)}
	}
	return all
}

func wholeEntries(l []api.Entry) []api.Entry {
	all := whole(l)
	for i, e := range all {
		all[i].Deeds = wholeDeeds(e.Deeds)
	}
	return all
}

// wholeOf answers a copy of c, with all the spare room that it has.
func wholeOf(c api.Cluster) api.Cluster {
	out := api.Cluster{Log: wholeEntries(c.Log), Replicas: whole(c.Replicas), Net: whole(c.Net)}
	for i, r := range out.Replicas {
		e := r.Engine
		chains := whole(e.Chains)
		for k, c := range chains {
			chains[k].Versions = whole(c.Versions)
		}
		out.Replicas[i] = api.Replica{Next: r.Next, Early: wholeEntries(r.Early), Engine: api.Engine{
			Chains: chains, Deeds: wholeDeeds(e.Deeds), State: whole(e.State), Ends: whole(e.Ends), Base: e.Base,
		}}
	}
	for i, p := range out.Net {
		out.Net[i].Data = whole(p.Data)
	}
	return out
}

// fill writes x over all of l, its spare room too.
func fill[T any](l []T, x T) {
	l = l[:cap(l)]
	for i := range l {
		l[i] = x
	}
}

func blotDeeds(l []api.Deed) {
	for _, d := range l[:cap(l)] {
		fill(d.Reads, "blot")
		fill(d.Writes, "blot")
		fill(d.Code, api.Instr{Kind: 77})
	}
	fill(l, api.Deed{})
}

func blotEntries(l []api.Entry) {
	for _, e := range l[:cap(l)] {
		blotDeeds(e.Deeds)
	}
	fill(l, api.Entry{Number: 77})
}

// blot writes over all of c, its spare room too.
func blot(c api.Cluster) {
	blotEntries(c.Log)
	for _, r := range c.Replicas[:cap(c.Replicas)] {
		for _, l := range r.Engine.Chains[:cap(r.Engine.Chains)] {
			fill(l.Versions, api.Version{By: 77, N: 77})
		}
		blotEntries(r.Early)
		blotDeeds(r.Engine.Deeds)
		fill(r.Engine.Chains, api.Chain{Key: "blot"})
		fill(r.Engine.State, 77)
		fill(r.Engine.Ends, api.Done{Failed: true, Regs: [4]int{77}})
	}
	for _, p := range c.Net[:cap(c.Net)] {
		fill(p.Data, 77)
	}
	fill(c.Replicas, api.Replica{Next: 77})
	fill(c.Net, api.Packet{To: 77})
}

// steps are some of all kinds, right and wrong ones.
func steps(t *testing.T) []api.Step {
	t.Helper()
	return []api.Step{
		{}, batchOf(t), batchOf(t, more, looks), {Kind: api.StepBatch, Deeds: wrongDeeds()},
		sends(0, 0), sends(1, 2), sends(7, 0), comes(0), comes(1), comes(2), comes(16), loses(0), loses(1), loses(-1),
		twice(0), twice(2), twice(16), goesOn(0, 0), goesOn(1, 0), goesOn(1, 1), goesOn(3, 0), clears(0), clears(1), clears(-1),
	}
}

// call answers a cluster, and why not, of one that it is handed, and a step.
type call struct {
	name string
	of   func(c api.Cluster, s api.Step) (api.Cluster, api.Errno)
}

func calls() []call {
	return []call{
		{"Own", func(c api.Cluster, s api.Step) (api.Cluster, api.Errno) { return Own(c), api.OK }},
		{"Do", Do},
	}
}

func TestNothingIsShared(t *testing.T) {
	for _, f := range calls() {
		for _, tight := range clusters(t) {
			for _, step := range steps(t) {
				c, s := roomy(tight), step
				s.Deeds = roomyDeeds(step.Deeds)
				before, deeds := wholeOf(c), wholeDeeds(s.Deeds)
				unchanged := func(what string) {
					t.Helper()
					if now := wholeOf(c); !reflect.DeepEqual(now, before) || !reflect.DeepEqual(wholeDeeds(s.Deeds), deeds) {
						t.Fatalf("%s %s: %v, %v, not %v, %v", f.name, what, now, s, before, deeds)
					}
				}
				want, why := f.of(Own(tight), step)
				got, errno := f.of(c, s)
				unchanged("changes what it is handed")
				if !same(got, want) || errno != why {
					t.Fatalf("%s looks at the spare room: %d %v, not %d %v", f.name, errno, got, why, want)
				}
				blot(got)
				unchanged("answers what it is handed")
				got, _ = f.of(c, s)
				blot(c)
				blotDeeds(s.Deeds)
				if !same(got, want) {
					t.Fatalf("%s keeps what it is handed: %v, not %v", f.name, got, want)
				}
			}
		}
	}
}

func longerDeeds(l []api.Deed) {
	for _, d := range l {
		_, _ = append(d.Reads, "more", "more"), append(d.Writes, "more", "more")
		_ = append(d.Code, api.Instr{Kind: 88}, api.Instr{Kind: 89})
	}
	_ = append(l, api.Deed{}, api.Deed{})
}

func longerEntries(l []api.Entry) {
	for _, e := range l {
		longerDeeds(e.Deeds)
	}
	_ = append(l, api.Entry{}, api.Entry{})
}

// longer makes each list of c longer, as whoever has it may.
func longer(c api.Cluster) {
	longerEntries(c.Log)
	for _, r := range c.Replicas {
		for _, l := range r.Engine.Chains {
			_ = append(l.Versions, api.Version{By: 88}, api.Version{By: 89})
		}
		_ = append(r.Engine.Chains, api.Chain{Key: "more"}, api.Chain{Key: "more"})
		_, _ = append(r.Engine.State, 88, 89), append(r.Engine.Ends, api.Done{Failed: true})
		longerDeeds(r.Engine.Deeds)
		longerEntries(r.Early)
	}
	for _, p := range c.Net {
		_ = append(p.Data, 88, 89)
	}
	_, _ = append(c.Replicas, api.Replica{Next: 88}), append(c.Net, api.Packet{To: 88})
}

// Whoever makes one list of an answer longer does not write into another one.
func TestListsOfAnAnswerAreApart(t *testing.T) {
	for _, f := range calls() {
		for _, c := range clusters(t) {
			for _, s := range steps(t) {
				got, _ := f.of(c, s)
				want := Own(got)
				longer(got)
				if !same(got, want) {
					t.Fatalf("%s of %v: %v, not %v", f.name, s, got, want)
				}
			}
		}
	}
}

// A packet that is there twice has its bytes twice.
func TestPacketsAreApart(t *testing.T) {
	c := does(t, filled(t, 2, 1), sends(1, 0), twice(0))
	want := slices.Clone(c.Net[1].Data)
	fill(c.Net[0].Data, 77)
	if !bytes.Equal(c.Net[1].Data, want) {
		t.Errorf("%v, not %v", c.Net[1].Data, want)
	}
}

// Two that come of one do not write into each other.
func TestTwoComeOfOne(t *testing.T) {
	c := does(t, filled(t, 2, 5), sends(0, 0), sends(1, 1), sends(0, 2))
	one := does(t, c, batchOf(t, more), sends(0, 3))
	before := wholeOf(one)
	other := does(t, c, batchOf(t, dropA), sends(1, 4), comes(0), loses(0))
	if !reflect.DeepEqual(wholeOf(one), before) || len(other.Net) != 2 || len(other.Log) != 6 {
		t.Errorf("%v, not %v; %v", one, before, other)
	}
}

func TestNewSharesNothing(t *testing.T) {
	c := newOne(t, 3)
	blot(c)
	if now := newOne(t, 3); !same(now, api.Cluster{Replicas: make([]api.Replica, 3)}) {
		t.Errorf("%v", now)
	}
}

// What is no entry, or goes to nobody, comes to nothing, and goes.
func TestWrongPackets(t *testing.T) {
	c := delivers(t, filled(t, 2, 3), 1, 0)
	turned := log.Bytes(c.Log[1])
	turned[3]++
	for _, p := range []api.Packet{
		{}, {To: 1}, {To: 1, Data: []byte{1, 2}}, {To: 1, Data: turned}, {To: 1, Data: []byte("\x0c\x0c\x0e")},
		packet(2, c.Log[1]), packet(-1, c.Log[1]), packet(math.MaxInt, c.Log[1]), packet(math.MinInt, c.Log[1]),
	} {
		x := Own(c)
		x.Net = []api.Packet{packet(0, c.Log[0]), p, packet(0, c.Log[2])}
		want := Own(x)
		want.Net = slices.Delete(want.Net, 1, 2)
		becomes(t, x, comes(1), want)
		becomes(t, x, loses(1), want)
		want.Net = append(slices.Clone(x.Net), p)
		becomes(t, x, twice(1), want)
	}
}

// Of what are no clusters nothing is promised but that calls end, and answer
// the same again.
func TestWrongClustersDoNotPanic(t *testing.T) {
	odd := []api.Deed{{Reads: []string{"", "a", "a"}, Writes: []string{"\xff"}}, {Code: []api.Instr{{Kind: -1, A: math.MaxInt}}}, {}}
	chains := []api.Chain{{Key: "b", Versions: []api.Version{{By: 9}, {By: -9}}}, {Key: "a"}}
	logs := [][]api.Entry{
		nil,
		{{Number: 7, Deeds: odd}, {Number: math.MinInt}, {Number: 256}},
		append(make([]api.Entry, 40), api.Entry{Deeds: odd}),
	}
	replicas := [][]api.Replica{
		nil,
		{{Next: math.MaxInt}, {Next: math.MinInt, Early: []api.Entry{{Number: 1, Deeds: odd}, {}, {}}}},
		{{Engine: api.Engine{Deeds: odd, State: make([]int, 9), Ends: make([]api.Done, 1)}}, {}, {}, {}, {}},
		{{Engine: api.Engine{Deeds: odd, State: make([]int, 3), Ends: make([]api.Done, 3)}}},
		{{Engine: api.Engine{Chains: chains, Deeds: odd, State: []int{1, 0, 5}, Ends: make([]api.Done, 3), Base: math.MaxInt}}},
		{{Engine: api.Engine{Chains: chains, Deeds: odd, State: make([]int, 3), Ends: make([]api.Done, 3), Base: math.MinInt}}},
	}
	nets := [][]api.Packet{
		nil,
		{{To: -1}, {To: 1, Data: []byte("\x01\x02")}, {To: math.MaxInt, Data: log.Bytes(api.Entry{})}},
		{{Data: log.Bytes(api.Entry{})}, {Data: log.Bytes(of(t, 1, more))}, {To: 1, Data: log.Bytes(of(t, 2, looks, pay))}},
		make([]api.Packet, 99),
	}
	for _, l := range logs {
		for _, some := range replicas {
			for _, net := range nets {
				c := api.Cluster{Log: l, Replicas: some, Net: net}
				before := wholeOf(c)
				for _, f := range calls() {
					for _, s := range steps(t) {
						a, errno := f.of(c, s)
						if b, again := f.of(c, s); errno != again || !same(a, b) || f.name == "Do" && errno != api.OK && !same(a, c) {
							t.Fatalf("%s of %v, %v: %d %v, then %d %v", f.name, c, s, errno, a, again, b)
						}
					}
				}
				if !reflect.DeepEqual(wholeOf(c), before) {
					t.Errorf("changed: %v, not %v", c, before)
				}
			}
		}
	}
}
