package plain

import (
	"maps"
	"math"
	"slices"
	"strings"
	"testing"

	"rankandfile/api"
	"rankandfile/deed"
	"rankandfile/rows"
	"rankandfile/text"
)

const (
	more    = "reads a; writes a; load r0 a; const r1 1; add r0 r1; store r0 a"
	pay     = "reads a b; writes a b; load r0 a; const r1 2; sub r0 r1; store r0 a; fail r0; load r2 b; add r2 r1; store r2 b"
	dropA   = "reads; writes a; drop a"
	noughtB = "reads; writes b; store r0 b"
	swap    = "reads a b; writes b a; load r0 a; load r1 b; store r1 a; store r0 b"
	ifA     = "reads a; writes c; load r0 a; skip r0 1; store r0 c; const r3 -7"
	looks   = "reads a b c; writes; load r0 a; load r1 b; load r2 c"
	move    = "reads a; writes b a; load r0 a; store r0 b; drop a"
	none    = "reads; writes"
)

// texts are the deeds above, all of them.
func texts() []string { return []string{more, pay, dropA, noughtB, swap, ifA, looks, move, none} }

func read(t *testing.T, s string) api.Deed {
	t.Helper()
	d, e := text.Parse(s)
	if e != api.OK {
		t.Fatalf("%q is no deed: %d", s, e)
	}
	return d
}

func readAll(t *testing.T, texts ...string) []api.Deed {
	t.Helper()
	var l []api.Deed
	for _, s := range texts {
		l = append(l, read(t, s))
	}
	return l
}

func TestDo(t *testing.T) {
	const m = api.MaxNum
	for _, c := range []struct {
		name string
		r    api.Rows
		d    string
		want api.Rows
		end  api.Done
	}{
		{"nothing, on none", nil, none, nil, api.Done{}},
		{"nothing, on an empty list", api.Rows{}, none, nil, api.Done{}},
		{"nothing, on some", api.Rows{{Key: "a", N: 1}}, none, api.Rows{{Key: "a", N: 1}}, api.Done{}},
		{"a key that had nothing", nil, more, api.Rows{{Key: "a", N: 1}}, api.Done{Regs: [4]int{1, 1}}},
		{"a key that had something", api.Rows{{Key: "a", N: 2}}, more, api.Rows{{Key: "a", N: 3}}, api.Done{Regs: [4]int{3, 1}}},
		{"between others", api.Rows{{Key: "a", N: 1}, {Key: "c", N: 3}}, noughtB, api.Rows{{Key: "a", N: 1}, {Key: "b"}, {Key: "c", N: 3}}, api.Done{}},
		{"ahead of others", api.Rows{{Key: "c", N: 3}}, noughtB, api.Rows{{Key: "b"}, {Key: "c", N: 3}}, api.Done{}},
		{"behind others", api.Rows{{Key: "a", N: 3}}, noughtB, api.Rows{{Key: "a", N: 3}, {Key: "b"}}, api.Done{}},
		{"0 is something", api.Rows{{Key: "b", N: 9}}, noughtB, api.Rows{{Key: "b"}}, api.Done{}},
		{"dropped", api.Rows{{Key: "a", N: 1}, {Key: "b", N: 2}}, dropA, api.Rows{{Key: "b", N: 2}}, api.Done{}},
		{"dropped, the only one", api.Rows{{Key: "a", N: 1}}, dropA, nil, api.Done{}},
		{"dropped, and not there", api.Rows{{Key: "b", N: 2}}, dropA, api.Rows{{Key: "b", N: 2}}, api.Done{}},
		{"dropped ahead, stored behind", api.Rows{{Key: "a", N: 1}}, "reads a; writes a; drop a; load r0 a; const r1 4; store r1 a", api.Rows{{Key: "a", N: 4}}, api.Done{Regs: [4]int{0, 4}}},
		{"stored ahead, dropped behind", nil, "reads a; writes a; store r0 a; drop a", nil, api.Done{}},
		{"sees what it stored", api.Rows{{Key: "a", N: 1}}, "reads a; writes a; const r0 7; store r0 a; load r1 a", api.Rows{{Key: "a", N: 7}}, api.Done{Regs: [4]int{7, 7}}},
		{"sees each key", api.Rows{{Key: "a", N: 1}, {Key: "b", N: 2}, {Key: "c", N: 3}}, looks, api.Rows{{Key: "a", N: 1}, {Key: "b", N: 2}, {Key: "c", N: 3}}, api.Done{Regs: [4]int{1, 2, 3}}},
		{"each key has its own", api.Rows{{Key: "a", N: 1}, {Key: "b", N: 2}}, swap, api.Rows{{Key: "a", N: 2}, {Key: "b", N: 1}}, api.Done{Regs: [4]int{1, 2}}},
		{"named in Writes, and not made", api.Rows{{Key: "a", N: -1}, {Key: "c", N: 5}}, ifA, api.Rows{{Key: "a", N: -1}, {Key: "c", N: 5}}, api.Done{Regs: [4]int{-1, 0, 0, -7}}},
		{"named in Writes, and made", api.Rows{{Key: "a", N: 1}, {Key: "c", N: 5}}, ifA, api.Rows{{Key: "a", N: 1}, {Key: "c", N: 1}}, api.Done{Regs: [4]int{1, 0, 0, -7}}},
		{"failed", api.Rows{{Key: "a", N: 1}, {Key: "b", N: 2}}, pay, api.Rows{{Key: "a", N: 1}, {Key: "b", N: 2}}, api.Done{Failed: true, Regs: [4]int{-1, 2}}},
		{"failed, on none", nil, pay, nil, api.Done{Failed: true, Regs: [4]int{-2, 2}}},
		{"failed, behind a drop", api.Rows{{Key: "a", N: 1}}, "reads; writes a; drop a; const r0 -1; fail r0", api.Rows{{Key: "a", N: 1}}, api.Done{Failed: true, Regs: [4]int{-1}}},
		{"not failed", api.Rows{{Key: "a", N: 2}, {Key: "b", N: 2}}, pay, api.Rows{{Key: "a"}, {Key: "b", N: 4}}, api.Done{Regs: [4]int{0, 2, 4}}},
		{"goes round", api.Rows{{Key: "a", N: m}}, more, api.Rows{{Key: "a"}}, api.Done{Regs: [4]int{0, 1}}},
		{"the least", api.Rows{{Key: "a", N: -m}}, more, api.Rows{{Key: "a", N: 1 - m}}, api.Done{Regs: [4]int{1 - m, 1}}},
		{"dropped between two that are stored", api.Rows{{Key: "b", N: 2}}, "reads; writes a b c; const r0 8; drop b; store r0 c; store r0 a", api.Rows{{Key: "a", N: 8}, {Key: "c", N: 8}}, api.Done{Regs: [4]int{8}}},
		{"as many as it may", nil, "reads; writes e d c b a; const r0 8; store r0 a; store r0 b; store r0 c; store r0 d; drop e", api.Rows{{Key: "a", N: 8}, {Key: "b", N: 8}, {Key: "c", N: 8}, {Key: "d", N: 8}}, api.Done{Regs: [4]int{8}}},
	} {
		got, end := Do(c.r, read(t, c.d))
		if !slices.Equal(got, c.want) || end != c.end {
			t.Errorf("%s: %v %+v, not %v %+v", c.name, got, end, c.want, c.end)
		}
	}
}

func TestAllOfNone(t *testing.T) {
	for _, r := range []api.Rows{nil, {}, {{Key: "a", N: 1}, {Key: "b", N: 2}}} {
		for _, l := range [][]api.Deed{nil, {}} {
			if got, ends := All(r, l); !slices.Equal(got, r) || len(ends) != 0 {
				t.Errorf("All(%v) of none: %v %v", r, got, ends)
			}
		}
	}
}

func TestOneMoreThreeTimes(t *testing.T) {
	got, ends := All(nil, readAll(t, more, more, more))
	if !slices.Equal(got, api.Rows{{Key: "a", N: 3}}) {
		t.Errorf("%v", got)
	}
	if !slices.Equal(ends, []api.Done{{Regs: [4]int{1, 1}}, {Regs: [4]int{2, 1}}, {Regs: [4]int{3, 1}}}) {
		t.Errorf("%v", ends)
	}
}

// One that failed was never there, for those behind it either.
func TestAllGoesOnBehindAFailure(t *testing.T) {
	got, ends := All(api.Rows{{Key: "a", N: 1}}, readAll(t, pay, more, pay, pay, looks))
	if !slices.Equal(got, api.Rows{{Key: "a"}, {Key: "b", N: 2}}) {
		t.Errorf("%v", got)
	}
	want := []api.Done{
		{Failed: true, Regs: [4]int{-1, 2}},
		{Regs: [4]int{2, 1}},
		{Regs: [4]int{0, 2, 2}},
		{Failed: true, Regs: [4]int{-2, 2}},
		{Regs: [4]int{0, 2}},
	}
	if !slices.Equal(ends, want) {
		t.Errorf("%v, not %v", ends, want)
	}
}

// model does d on a map: without Run, and not the way that it goes.
func model(has map[string]int, d api.Deed) (map[string]int, api.Done) {
	now := maps.Clone(has)
	var end api.Done
	regs := &end.Regs
	for pass, code := 0, d.Code; len(code) > 0; code = code[1:] {
		in := code[0]
		if pass > 0 {
			pass--
			continue
		}
		switch in.Kind {
		case api.InLoad:
			regs[in.A] = now[in.Key]
		case api.InConst:
			regs[in.A] = in.N
		case api.InAdd:
			regs[in.A] = rows.Round(regs[in.A] + regs[in.B])
		case api.InSub:
			regs[in.A] = rows.Round(regs[in.A] - regs[in.B])
		case api.InMul:
			regs[in.A] = rows.Round(regs[in.A] * regs[in.B])
		case api.InStore:
			now[in.Key] = regs[in.A]
		case api.InDrop:
			delete(now, in.Key)
		case api.InSkip:
			if regs[in.A] <= 0 {
				pass = in.N
			}
		case api.InFail:
			if regs[in.A] < 0 {
				end.Failed = true
				return has, end
			}
		}
	}
	return now, end
}

func mapOf(r api.Rows) map[string]int {
	m := map[string]int{}
	for _, p := range r {
		m[p.Key] = p.N
	}
	return m
}

// starts are rows with and without each of a, b and c.
func starts() []api.Rows {
	return []api.Rows{
		nil,
		{{Key: "a", N: 1}},
		{{Key: "b", N: 3}},
		{{Key: "a", N: 3}, {Key: "c", N: -9}},
		{{Key: "a", N: -1}, {Key: "b", N: 0}, {Key: "c", N: api.MaxNum}},
		{{Key: "aa", N: 4}, {Key: "d", N: 5}},
	}
}

// each calls f for all three deeds that texts make, on all starts.
func each(t *testing.T, f func(r api.Rows, l []api.Deed)) {
	for _, x := range texts() {
		for _, y := range texts() {
			for _, z := range texts() {
				for _, r := range starts() {
					f(r, readAll(t, x, y, z))
				}
			}
		}
	}
}

func TestAllIsOneByOne(t *testing.T) {
	each(t, func(r api.Rows, l []api.Deed) {
		got, ends := All(r, l)
		if rows.Wrong(got) != api.OK || len(ends) != len(l) {
			t.Fatalf("All(%v, %v): %v %v", r, l, got, ends)
		}
		has, one := mapOf(r), r
		for i, d := range l {
			var end, oneEnd api.Done
			has, end = model(has, d)
			one, oneEnd = Do(one, d)
			if ends[i] != end || oneEnd != end || !maps.Equal(mapOf(one), has) {
				t.Fatalf("All(%v, %v): deed %d ends %+v, and one by one %v %+v, not %v %+v", r, l, i, ends[i], one, oneEnd, has, end)
			}
		}
		if !slices.Equal(got, one) {
			t.Fatalf("All(%v, %v): %v, not %v", r, l, got, one)
		}
	})
}

// apart tells whether neither of a and b writes what the other one names.
func apart(a, b api.Deed) bool {
	touches := func(writes []string, d api.Deed) bool {
		return slices.ContainsFunc(writes, func(key string) bool {
			return slices.Contains(d.Reads, key) || slices.Contains(d.Writes, key)
		})
	}
	return !touches(a.Writes, b) && !touches(b.Writes, a)
}

func TestWhoSharesNothingMayGoFirst(t *testing.T) {
	deeds := readAll(t, append(texts(), "reads d; writes d; load r0 d; const r1 1; add r0 r1; store r0 d")...)
	pairs := 0
	for _, a := range deeds {
		for _, b := range deeds {
			if !apart(a, b) {
				continue
			}
			pairs++
			for _, r := range starts() {
				ab, abEnds := All(r, []api.Deed{a, b})
				ba, baEnds := All(r, []api.Deed{b, a})
				if !slices.Equal(ab, ba) || abEnds[0] != baEnds[1] || abEnds[1] != baEnds[0] {
					t.Errorf("on %v: %v %v, and %v %v", r, ab, abEnds, ba, baEnds)
				}
			}
		}
	}
	if pairs < 2*len(deeds) {
		t.Errorf("only %d pairs share nothing", pairs)
	}
}

// Who shares something may not: that order counts.
func TestInTurn(t *testing.T) {
	first, _ := All(nil, readAll(t, more, dropA))
	last, _ := All(nil, readAll(t, dropA, more))
	if len(first) != 0 || !slices.Equal(last, api.Rows{{Key: "a", N: 1}}) {
		t.Errorf("%v and %v", first, last)
	}
}

// roomy answers l with spare room behind it, and the whole of that memory.
func roomy[T any](l []T, spare T) (list, whole []T) {
	whole = append(slices.Clone(l), spare, spare)
	return whole[:len(l)], whole
}

// roomyDeed answers d with spare room behind its lists, and with all of that
// memory in the lists.
func roomyDeed(d api.Deed) (list, whole api.Deed) {
	list.Reads, whole.Reads = roomy(d.Reads, "spare")
	list.Writes, whole.Writes = roomy(d.Writes, "spare")
	list.Code, whole.Code = roomy(d.Code, api.Instr{Kind: api.InFail, A: 3})
	return list, whole
}

func blot(d api.Deed) {
	clear(d.Reads)
	clear(d.Writes)
	clear(d.Code)
}

// calls are Do and All of one deed, in one form; Do and All of many agree.
func calls() map[string]func(r api.Rows, d api.Deed) (api.Rows, []api.Done) {
	return map[string]func(r api.Rows, d api.Deed) (api.Rows, []api.Done){
		"Do": func(r api.Rows, d api.Deed) (api.Rows, []api.Done) {
			got, end := Do(r, d)
			return got, []api.Done{end}
		},
		"All": func(r api.Rows, d api.Deed) (api.Rows, []api.Done) {
			return All(r, []api.Deed{d})
		},
		"All of none": func(r api.Rows, _ api.Deed) (api.Rows, []api.Done) {
			return All(r, nil)
		},
	}
}

func TestNothingIsShared(t *testing.T) {
	for name, call := range calls() {
		for _, d := range readAll(t, texts()...) {
			for _, r := range starts() {
				list, whole := roomy(r, api.Pair{Key: "spare", N: 1})
				before := slices.Clone(whole)
				deedList, deedWhole := roomyDeed(d)
				deedBefore := deed.Own(deedWhole)
				got, ends := call(list, deedList)
				if !slices.Equal(whole, before) || !deed.Same(deedWhole, deedBefore) {
					t.Fatalf("%s changes what it is handed: %v %v", name, whole, deedWhole)
				}
				want, wantEnds := call(r, d)
				clear(whole)
				blot(deedWhole)
				if !slices.Equal(got, want) || !slices.Equal(ends, wantEnds) {
					t.Fatalf("%s keeps what it is handed, or looks at the spare room: %v %v, not %v %v", name, got, ends, want, wantEnds)
				}
				copy(whole, before)
				clear(got[:cap(got)])
				clear(ends[:cap(ends)])
				if !slices.Equal(whole, before) {
					t.Fatalf("%s answers what it is handed: %v", name, whole)
				}
			}
		}
	}
}

// Deeds behind those that are handed in are none of them.
func TestSpareDeeds(t *testing.T) {
	whole := readAll(t, more, more, dropA, pay)
	got, ends := All(nil, whole[:2])
	if !slices.Equal(got, api.Rows{{Key: "a", N: 2}}) || len(ends) != 2 {
		t.Errorf("%v %v", got, ends)
	}
	for i, d := range readAll(t, more, more, dropA, pay) {
		if !deed.Same(whole[i], d) {
			t.Errorf("deed %d is changed: %v", i, whole[i])
		}
	}
}

// Nothing is left of one call in the next one.
func TestTwiceIsTheSame(t *testing.T) {
	each(t, func(r api.Rows, l []api.Deed) {
		a, aEnds := All(r, l)
		b, bEnds := All(r, l)
		if !slices.Equal(a, b) || !slices.Equal(aEnds, bEnds) {
			t.Fatalf("All(%v, %v): %v %v, then %v %v", r, l, a, aEnds, b, bEnds)
		}
	})
}

// A wrong deed does nothing; those around it are done.
func TestWrongDeeds(t *testing.T) {
	r := api.Rows{{Key: "a", N: 1}, {Key: "b", N: 2}}
	for _, d := range []api.Deed{
		{Reads: []string{"A"}},
		{Writes: []string{"a", "a"}, Code: []api.Instr{{Kind: api.InDrop, Key: "a"}}},
		{Code: []api.Instr{{Kind: api.InDrop, Key: "a"}}},
		{Code: []api.Instr{{Kind: 77}}},
		{Code: []api.Instr{{Kind: api.InConst, A: math.MaxInt, N: 1}}},
		{Code: []api.Instr{{Kind: api.InAdd, B: math.MinInt}}},
		{Code: []api.Instr{{Kind: api.InSkip, N: math.MaxInt}}},
		{Writes: []string{"a"}, Code: []api.Instr{{Kind: api.InDrop, Key: "a"}, {Kind: api.InFail, A: 4}}},
	} {
		if got, end := Do(r, d); !slices.Equal(got, r) || end != (api.Done{}) {
			t.Errorf("Do(%+v): %v %+v", d, got, end)
		}
		got, ends := All(r, []api.Deed{read(t, more), d, read(t, more)})
		if !slices.Equal(got, api.Rows{{Key: "a", N: 3}, {Key: "b", N: 2}}) || len(ends) != 3 || ends[1] != (api.Done{}) {
			t.Errorf("All(%+v): %v %+v", d, got, ends)
		}
	}
}

// Of wrong rows nothing is promised but that calls end.
func TestWrongRowsDoNotPanic(t *testing.T) {
	l := readAll(t, texts()...)
	for _, r := range []api.Rows{
		{{}},
		{{}, {}, {}},
		{{Key: "c"}, {Key: "b"}, {Key: "a"}},
		{{Key: "a", N: 1}, {Key: "a", N: 2}, {Key: "a", N: 3}},
		{{Key: "\xff", N: math.MinInt}, {Key: "A", N: math.MaxInt}},
		{{Key: "a", N: math.MinInt}, {Key: "b", N: math.MaxInt}},
		{{Key: strings.Repeat("a", 1000)}},
	} {
		if _, ends := All(r, l); len(ends) != len(l) {
			t.Errorf("%v: %d ends", r, len(ends))
		}
	}
}
