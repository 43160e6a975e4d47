package chain

import (
	"math"
	"slices"
	"strings"
	"testing"

	"rankandfile/api"
)

// Short forms: a version that has n, one that has nothing, one that waits.
func has(by, n int) api.Version  { return api.Version{By: by, Made: true, Has: true, N: n} }
func nothing(by int) api.Version { return api.Version{By: by, Made: true} }
func waits(by int) api.Version   { return api.Version{By: by} }

// of answers the chain of a key.
func of(key string, versions ...api.Version) api.Chain {
	return api.Chain{Key: key, Versions: versions}
}

func same(a, b []api.Chain) bool {
	return slices.EqualFunc(a, b, func(x, y api.Chain) bool {
		return x.Key == y.Key && slices.Equal(x.Versions, y.Versions)
	})
}

// right tells whether l is what the chapter calls chains.
func right(l []api.Chain) bool {
	for i, c := range l {
		if i > 0 && c.Key <= l[i-1].Key || len(c.Versions) == 0 {
			return false
		}
		last := -2
		for _, v := range c.Versions {
			if v.By <= last || v.Has && !v.Made || v.N != 0 && !v.Has {
				return false
			}
			last = v.By
		}
	}
	return true
}

// histories are what a key may have: nothing at all, what was there, what is
// made, what is dropped, and what waits, in turns that differ.
func histories() [][]api.Version {
	return [][]api.Version{
		nil,
		{has(-1, 5)},
		{has(-1, 0), waits(0)},
		{has(-1, 8), has(0, -7), nothing(2), waits(3)},
		{waits(2)},
		{nothing(1)},
		{nothing(0), nothing(1), has(4, api.MaxNum)},
		{waits(0), has(1, 0), waits(3), nothing(4)},
		{has(3, -api.MaxNum), has(5, 1)},
	}
}

// each calls f for chains of all histories of three keys, of which one begins
// another.
func each(f func(l []api.Chain)) {
	for _, a := range histories() {
		for _, ab := range histories() {
			for _, c := range histories() {
				var l []api.Chain
				for _, x := range []api.Chain{of("a", a...), of("ab", ab...), of("c", c...)} {
					if len(x.Versions) > 0 {
						l = append(l, x)
					}
				}
				f(l)
			}
		}
	}
}

// asked are the keys of each, and keys below, between and above them.
func asked() []string { return []string{"a", "aa", "ab", "abc", "b", "c", "zzzzzz"} }

// numbers are those of the histories, and numbers around and far from them.
func numbers() []int {
	return []int{math.MinInt, -2, -1, 0, 1, 2, 3, 4, 5, 6, 7, math.MaxInt}
}

// versionsOf looks chain by chain: slower than Before, and not the same way.
func versionsOf(l []api.Chain, key string) []api.Version {
	for _, c := range l {
		if c.Key == key {
			return c.Versions
		}
	}
	return nil
}

// lastOf goes through all versions, in the words of the chapter.
func lastOf(versions []api.Version, by int) api.Version {
	last := api.Version{By: -1, Made: true}
	for _, v := range versions {
		if v.By < by {
			last = v
		}
	}
	return last
}

func TestTheHistoriesAreRight(t *testing.T) {
	each(func(l []api.Chain) {
		if !right(l) {
			t.Fatalf("%v", l)
		}
	})
}

func TestOf(t *testing.T) {
	const m = api.MaxNum
	for _, c := range []struct {
		r    api.Rows
		want []api.Chain
	}{
		{nil, nil},
		{api.Rows{}, nil},
		{api.Rows{{Key: "a", N: 1}}, []api.Chain{of("a", has(-1, 1))}},
		{api.Rows{{Key: "a"}}, []api.Chain{of("a", has(-1, 0))}},
		{api.Rows{{Key: "a", N: -m}, {Key: "aa", N: 3}, {Key: "zzzzzz", N: m}}, []api.Chain{of("a", has(-1, -m)), of("aa", has(-1, 3)), of("zzzzzz", has(-1, m))}},
	} {
		got := Of(c.r)
		if !same(got, c.want) || !right(got) {
			t.Errorf("Of(%v): %v, not %v", c.r, got, c.want)
		}
		for _, by := range []int{0, 1, math.MaxInt} {
			if back, ok := Rows(got, by); !ok || !slices.Equal(back, c.r) {
				t.Errorf("Rows of Of(%v) ahead of %d: %v %v", c.r, by, back, ok)
			}
		}
	}
}

func TestOwn(t *testing.T) {
	each(func(l []api.Chain) {
		if got := Own(l); !same(got, l) {
			t.Fatalf("Own(%v): %v", l, got)
		}
	})
	if got := Own(nil); len(got) != 0 {
		t.Errorf("Own of none: %v", got)
	}
	// One without versions is no chain; a copy of it is one all the same.
	if l := []api.Chain{of("b"), of("a")}; !same(Own(l), l) {
		t.Errorf("Own(%v): %v", l, Own(l))
	}
}

func TestBefore(t *testing.T) {
	each(func(l []api.Chain) {
		for _, k := range asked() {
			for _, by := range numbers() {
				want := lastOf(versionsOf(l, k), by)
				if got := Before(l, k, by); got != want {
					t.Fatalf("Before(%v, %q, %d): %+v, not %+v", l, k, by, got, want)
				}
			}
		}
	})
}

func TestBeforeOfNone(t *testing.T) {
	for _, l := range [][]api.Chain{nil, {}, {of("b", waits(4))}} {
		for _, k := range []string{"a", "b", "c", ""} {
			if got := Before(l, k, 4); got != (api.Version{By: -1, Made: true}) {
				t.Errorf("Before(%v, %q): %+v", l, k, got)
			}
		}
	}
}

// A deed does not see its own version, and the one behind it does, not made yet.
func TestSeenNotMadeYet(t *testing.T) {
	l := Add(Of(api.Rows{{Key: "a", N: 1}}), "a", 3)
	if got := Before(l, "a", 3); got != has(-1, 1) {
		t.Errorf("deed 3 sees %+v", got)
	}
	if got := Before(l, "a", 4); got != waits(3) {
		t.Errorf("deed 4 sees %+v", got)
	}
}

func TestAdd(t *testing.T) {
	each(func(l []api.Chain) {
		for _, k := range asked() {
			for _, by := range []int{6, 7, math.MaxInt} {
				got := Add(l, k, by)
				want := append(slices.Clone(versionsOf(l, k)), waits(by))
				if !right(got) || !slices.Equal(versionsOf(got, k), want) {
					t.Fatalf("Add(%v, %q, %d): %v", l, k, by, got)
				}
				othersStay(t, l, got, k)
			}
		}
	})
}

func TestAddFirst(t *testing.T) {
	for _, by := range []int{-1, 0, 9} {
		for _, l := range [][]api.Chain{nil, {}} {
			if got := Add(l, "k", by); !same(got, []api.Chain{of("k", waits(by))}) {
				t.Errorf("Add of %d: %v", by, got)
			}
		}
	}
}

// othersStay tells if a key but k has other versions in got than in l.
func othersStay(t *testing.T, l, got []api.Chain, k string) {
	t.Helper()
	for _, c := range slices.Concat(l, got) {
		if c.Key != k && !slices.Equal(versionsOf(l, c.Key), versionsOf(got, c.Key)) {
			t.Fatalf("%q of %v is another one: %v", c.Key, l, got)
		}
	}
}

func TestSet(t *testing.T) {
	each(func(l []api.Chain) {
		for _, k := range asked() {
			for _, by := range numbers() {
				for _, v := range []api.Version{has(by, 42), has(by, 0), nothing(by), waits(by)} {
					want := slices.Clone(versionsOf(l, k))
					for i := range want {
						if want[i].By == by {
							want[i] = v
						}
					}
					got := Set(l, k, v)
					if !right(got) || !slices.Equal(versionsOf(got, k), want) {
						t.Fatalf("Set(%v, %q, %+v): %v", l, k, v, got)
					}
					othersStay(t, l, got, k)
				}
			}
		}
	})
}

func TestSetOfNone(t *testing.T) {
	l := []api.Chain{of("b", has(-1, 2), waits(3))}
	for _, k := range []string{"a", "c", ""} {
		if got := Set(l, k, has(3, 1)); !same(got, l) {
			t.Errorf("of no key %q: %v", k, got)
		}
	}
	for _, by := range []int{math.MinInt, -2, 0, 2, 4, math.MaxInt} {
		if got := Set(l, "b", has(by, 1)); !same(got, l) {
			t.Errorf("of no version %d: %v", by, got)
		}
	}
	for _, l := range [][]api.Chain{nil, {}} {
		if got := Set(l, "b", has(3, 1)); len(got) != 0 {
			t.Errorf("of no chains: %v", got)
		}
	}
}

// Who is ahead sees nothing of what is added, or set.
func TestNothingIsSeenAhead(t *testing.T) {
	each(func(l []api.Chain) {
		for _, k := range asked() {
			added := Add(l, k, 6)
			set := Set(added, k, has(6, 9))
			for _, by := range numbers() {
				want, late := Before(l, k, by), by > 6
				if late {
					want = waits(6)
				}
				if got := Before(added, k, by); got != want {
					t.Fatalf("added to %q of %v, ahead of %d: %+v, not %+v", k, l, by, got, want)
				}
				if late {
					want = has(6, 9)
				}
				if got := Before(set, k, by); got != want {
					t.Fatalf("set in %q of %v, ahead of %d: %+v, not %+v", k, l, by, got, want)
				}
			}
		}
	})
}

func TestRows(t *testing.T) {
	each(func(l []api.Chain) {
		for _, by := range numbers() {
			var want api.Rows
			made := true
			for _, c := range l {
				v := lastOf(c.Versions, by)
				made = made && v.Made
				if v.Has {
					want = append(want, api.Pair{Key: c.Key, N: v.N})
				}
			}
			if !made {
				want = nil
			}
			if got, ok := Rows(l, by); ok != made || !slices.Equal(got, want) {
				t.Fatalf("Rows(%v, %d): %v %v, not %v %v", l, by, got, ok, want, made)
			}
		}
	})
}

func TestRowsOfNone(t *testing.T) {
	for _, l := range [][]api.Chain{nil, {}} {
		for _, by := range numbers() {
			if r, ok := Rows(l, by); len(r) != 0 || !ok {
				t.Errorf("ahead of %d: %v %v", by, r, ok)
			}
		}
	}
}

func TestRowsAtEdges(t *testing.T) {
	l := []api.Chain{of("a", has(-1, 1), nothing(1)), of("b", has(0, 0)), of("c", has(-1, 3), waits(2))}
	for _, c := range []struct {
		by   int
		want api.Rows
		ok   bool
	}{
		{-1, nil, true},
		{0, api.Rows{{Key: "a", N: 1}, {Key: "c", N: 3}}, true},
		{1, api.Rows{{Key: "a", N: 1}, {Key: "b"}, {Key: "c", N: 3}}, true},
		{2, api.Rows{{Key: "b"}, {Key: "c", N: 3}}, true},
		{3, nil, false},
	} {
		if got, ok := Rows(l, c.by); ok != c.ok || !slices.Equal(got, c.want) {
			t.Errorf("ahead of %d: %v %v, not %v %v", c.by, got, ok, c.want, c.ok)
		}
	}
}

// cleared goes version by version, in the words of the chapter.
func cleared(versions []api.Version, by int) []api.Version {
	var left []api.Version
	for i, v := range versions {
		last := i+1 == len(versions) || versions[i+1].By >= by
		if v.By >= by || last && !(v.Made && !v.Has) {
			left = append(left, v)
		}
	}
	return left
}

func TestClear(t *testing.T) {
	each(func(l []api.Chain) {
		for _, by := range numbers() {
			var want []api.Chain
			for _, c := range l {
				if left := cleared(c.Versions, by); len(left) > 0 {
					want = append(want, of(c.Key, left...))
				}
			}
			got := Clear(l, by)
			if !right(got) || !same(got, want) {
				t.Fatalf("Clear(%v, %d): %v, not %v", l, by, got, want)
			}
			if again := Clear(got, by); !same(again, got) {
				t.Fatalf("Clear(%v, %d) once more: %v, not %v", l, by, again, got)
			}
		}
	})
}

func TestClearAtEdges(t *testing.T) {
	l := []api.Chain{
		of("a", nothing(1)),
		of("b", has(-1, 2), has(0, 7), waits(2)),
		of("d", has(-1, 4), nothing(1), has(4, 0)),
	}
	for _, c := range []struct {
		by   int
		want []api.Chain
	}{
		{math.MinInt, l},
		{-1, l},
		{0, l},
		{1, []api.Chain{of("a", nothing(1)), of("b", has(0, 7), waits(2)), l[2]}},
		{2, []api.Chain{of("b", has(0, 7), waits(2)), of("d", has(4, 0))}},
		{3, []api.Chain{of("b", waits(2)), of("d", has(4, 0))}},
		{math.MaxInt, []api.Chain{of("b", waits(2)), of("d", has(4, 0))}},
	} {
		if got := Clear(l, c.by); !same(got, c.want) {
			t.Errorf("of %d: %v, not %v", c.by, got, c.want)
		}
	}
	for _, none := range [][]api.Chain{nil, {}} {
		if got := Clear(none, 3); len(got) != 0 {
			t.Errorf("of none: %v", got)
		}
	}
}

// Nobody misses what is old: a deed from by on sees what it saw.
func TestNobodyMissesWhatIsOld(t *testing.T) {
	each(func(l []api.Chain) {
		for _, by := range numbers() {
			left := Clear(l, by)
			for _, later := range numbers() {
				if later < by {
					continue
				}
				r, ok := Rows(l, later)
				if lr, lok := Rows(left, later); lok != ok || !slices.Equal(lr, r) {
					t.Fatalf("Rows(%v, %d), cleared of %d: %v %v, not %v %v", l, later, by, lr, lok, r, ok)
				}
				for _, k := range asked() {
					a, b := Before(l, k, later), Before(left, k, later)
					if a.Made != b.Made || a.Has != b.Has || a.N != b.N {
						t.Fatalf("Before(%v, %q, %d), cleared of %d: %+v, not %+v", l, k, later, by, b, a)
					}
				}
			}
		}
	})
}

// spareChains are how many chains roomy lays behind those that it answers.
const spareChains = 2

// roomy answers l with spare room behind it, and behind each of its lists.
func roomy(l []api.Chain) []api.Chain {
	var list []api.Chain
	for _, c := range l {
		versions := append(slices.Clone(c.Versions), has(99, 99), waits(100))
		list = append(list, of(c.Key, versions[:len(c.Versions)]...))
	}
	for range spareChains {
		list = append(list, of("spare", has(-1, 1)))
	}
	return list[:len(l)]
}

// wholeOf answers a copy of all the memory that roomy laid.
func wholeOf(list []api.Chain) []api.Chain {
	var whole []api.Chain
	for _, c := range list[:len(list)+spareChains] {
		whole = append(whole, of(c.Key, slices.Clone(c.Versions[:cap(c.Versions)])...))
	}
	return whole
}

// deep answers a copy, made without Own.
func deep(l []api.Chain) []api.Chain {
	var out []api.Chain
	for _, c := range l {
		out = append(out, of(c.Key, slices.Clone(c.Versions)...))
	}
	return out
}

// blot writes over all of l, its spare room too.
func blot(l []api.Chain) {
	for _, c := range l[:cap(l)] {
		versions := c.Versions[:cap(c.Versions)]
		for i := range versions {
			versions[i] = api.Version{By: 77, N: 77}
		}
	}
	clear(l[:cap(l)])
}

// calls are those that answer chains.
func calls() map[string]func(l []api.Chain) []api.Chain {
	return map[string]func(l []api.Chain) []api.Chain{
		"Own":              Own,
		"Add":              func(l []api.Chain) []api.Chain { return Add(l, "ab", 6) },
		"Add of a new key": func(l []api.Chain) []api.Chain { return Add(l, "b", 6) },
		"Set":              func(l []api.Chain) []api.Chain { return Set(l, "a", has(0, 6)) },
		"Set of none":      func(l []api.Chain) []api.Chain { return Set(l, "b", has(0, 6)) },
		"Clear":            func(l []api.Chain) []api.Chain { return Clear(l, 2) },
		"Clear of nothing": func(l []api.Chain) []api.Chain { return Clear(l, -1) },
	}
}

func TestNothingIsShared(t *testing.T) {
	for name, call := range calls() {
		each(func(l []api.Chain) {
			list := roomy(l)
			before := wholeOf(list)
			got, want := call(list), call(deep(l))
			if now := wholeOf(list); !same(now, before) {
				t.Fatalf("%s changes what it is handed: %v, not %v", name, now, before)
			}
			if !same(got, want) {
				t.Fatalf("%s looks at the spare room: %v, not %v", name, got, want)
			}
			blot(got)
			if now := wholeOf(list); !same(now, before) {
				t.Fatalf("%s answers what it is handed: %v", name, now)
			}
			got = call(list)
			blot(list)
			if !same(got, want) {
				t.Fatalf("%s keeps what it is handed: %v, not %v", name, got, want)
			}
		})
	}
}

// Whoever makes one list of an answer longer does not write into another one.
func TestListsOfAnAnswerAreApart(t *testing.T) {
	for name, call := range calls() {
		each(func(l []api.Chain) {
			got := call(l)
			want := deep(got)
			for _, c := range got {
				_ = append(c.Versions, has(88, 88), has(89, 89), has(90, 90))
			}
			if !same(got, want) {
				t.Fatalf("%s: %v, not %v", name, got, want)
			}
		})
	}
}

func TestRowsAndChainsShareNothing(t *testing.T) {
	r := api.Rows{{Key: "a", N: 1}, {Key: "b", N: 2}, {Key: "spare", N: 3}}
	l := Of(r[:2])
	want := []api.Chain{of("a", has(-1, 1)), of("b", has(-1, 2))}
	clear(r)
	if !same(l, want) {
		t.Errorf("%v", l)
	}
	list := roomy(want)
	before := wholeOf(list)
	got, _ := Rows(list, 4)
	Before(list, "a", 4)
	if now := wholeOf(list); !same(now, before) {
		t.Errorf("changed: %v", now)
	}
	blot(list)
	if !slices.Equal(got, api.Rows{{Key: "a", N: 1}, {Key: "b", N: 2}}) {
		t.Errorf("%v", got)
	}
}

// Of what are no chains nothing is promised but that calls end, and answer the
// same again.
func TestWrongChainsDoNotPanic(t *testing.T) {
	odd := api.Version{By: math.MinInt, Has: true, N: math.MaxInt}
	for _, l := range [][]api.Chain{
		{{}},
		{{}, {}, {}},
		{of("c"), of("b"), of("a")},
		{of("a", waits(1)), of("a", has(1, 1)), of("a")},
		{of("b", waits(3), waits(2), waits(2), has(-1, 1)), of("a", odd)},
		{of("\xff", odd, odd), of("A", has(math.MaxInt, math.MinInt))},
		{of(strings.Repeat("a", 1000), has(0, 1))},
	} {
		for _, k := range []string{"", "a", "b", "A", "\xff", strings.Repeat("a", 1000)} {
			for _, by := range numbers() {
				v := api.Version{By: by, Has: true, N: by}
				if Before(l, k, by) != Before(l, k, by) {
					t.Errorf("Before(%v, %q, %d) differs", l, k, by)
				}
				if !same(Add(l, k, by), Add(l, k, by)) || !same(Set(l, k, v), Set(l, k, v)) || !same(Clear(l, by), Clear(l, by)) {
					t.Errorf("Add, Set or Clear of %v, %q, %d differs", l, k, by)
				}
				if r, ok := Rows(l, by); !ok && len(r) != 0 {
					t.Errorf("Rows(%v, %d): %v beside false", l, by, r)
				}
			}
		}
	}
	for _, r := range []api.Rows{{{}}, {{Key: "b"}, {Key: "a"}}, {{Key: "a", N: math.MinInt}, {Key: "a", N: math.MaxInt}}} {
		if got := Of(r); len(got) != len(r) {
			t.Errorf("Of(%v): %v", r, got)
		}
	}
}
