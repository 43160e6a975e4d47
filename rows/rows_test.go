package rows

import (
	"math"
	"slices"
	"strings"
	"testing"

	"rankandfile/api"
)

func TestKeyLengths(t *testing.T) {
	for n := range 3 * api.MaxKey {
		want := 1 <= n && n <= api.MaxKey
		if got := Key(strings.Repeat("k", n)); got != want {
			t.Errorf("Key of %d letters: %v, not %v", n, got, want)
		}
	}
}

// Each byte stands in each place of a key, so that no place goes unlooked at.
func TestKeyBytes(t *testing.T) {
	for c := range 256 {
		want := 'a' <= c && c <= 'z'
		for at := range api.MaxKey {
			b := []byte("mmmmmm")
			b[at] = byte(c)
			if got := Key(string(b)); got != want {
				t.Errorf("Key(%q): %v, not %v", b, got, want)
			}
		}
	}
}

func TestKeyOfOtherLetters(t *testing.T) {
	for _, s := range []string{"é", "aé", "ß", "\u0430", " a", "a ", "a\n", "a\x00", "\xff"} {
		if Key(s) {
			t.Errorf("Key(%q): true", s)
		}
	}
}

func TestWrong(t *testing.T) {
	const m = api.MaxNum
	for _, c := range []struct {
		name string
		r    api.Rows
		want api.Errno
	}{
		{"nil", nil, api.OK},
		{"none", api.Rows{}, api.OK},
		{"one", api.Rows{{Key: "a", N: 1}}, api.OK},
		{"rising", api.Rows{{Key: "a"}, {Key: "aa"}, {Key: "ab"}, {Key: "b"}, {Key: "zzzzzz"}}, api.OK},
		{"greatest", api.Rows{{Key: "a", N: m}}, api.OK},
		{"least", api.Rows{{Key: "a", N: -m}}, api.OK},
		{"too great", api.Rows{{Key: "a", N: m + 1}}, api.ErrRange},
		{"too small", api.Rows{{Key: "a", N: -m - 1}}, api.ErrRange},
		{"far too great", api.Rows{{Key: "a", N: math.MaxInt}}, api.ErrRange},
		{"far too small", api.Rows{{Key: "a", N: math.MinInt}}, api.ErrRange},
		{"empty key", api.Rows{{}}, api.ErrName},
		{"long key", api.Rows{{Key: "abcdefg"}}, api.ErrName},
		{"great letter", api.Rows{{Key: "A"}}, api.ErrName},
		{"twice", api.Rows{{Key: "b"}, {Key: "b"}}, api.ErrForm},
		{"falling", api.Rows{{Key: "b"}, {Key: "a"}}, api.ErrForm},
		{"longer one first", api.Rows{{Key: "aa"}, {Key: "a"}}, api.ErrForm},
		{"above the first one alone", api.Rows{{Key: "a"}, {Key: "c"}, {Key: "b"}}, api.ErrForm},
		{"last key", api.Rows{{Key: "a"}, {Key: "b"}, {Key: "c1"}}, api.ErrName},
		{"last number", api.Rows{{Key: "a"}, {Key: "b"}, {Key: "c", N: m + 1}}, api.ErrRange},
		{"name ahead of form", api.Rows{{Key: "b"}, {Key: "A"}}, api.ErrName},
		{"name ahead of range", api.Rows{{Key: "", N: m + 1}}, api.ErrName},
		{"form ahead of range", api.Rows{{Key: "b"}, {Key: "a", N: m + 1}}, api.ErrForm},
		{"range of a row ahead of the next one's name", api.Rows{{Key: "b", N: m + 1}, {Key: "A"}}, api.ErrRange},
		{"range of a row ahead of the next one's form", api.Rows{{Key: "b", N: -m - 1}, {Key: "a"}}, api.ErrRange},
		{"form of a row ahead of the next one's name", api.Rows{{Key: "b"}, {Key: "a"}, {Key: ""}}, api.ErrForm},
	} {
		if got := Wrong(c.r); got != c.want {
			t.Errorf("%s: %d, not %d", c.name, got, c.want)
		}
	}
}

// some are keys of which one begins another, and some stand side by side.
func some() []string { return []string{"a", "aa", "ab", "b", "m", "zzzzzz"} }

// rowsOf answers rows of those keys of some that the bits of set name.
func rowsOf(set int) api.Rows {
	var r api.Rows
	for i, k := range some() {
		if set>>i&1 == 1 {
			r = append(r, api.Pair{Key: k, N: 10 * (i + 1)})
		}
	}
	return r
}

// asked are the keys of some, and keys below, between and above them.
func asked() []string { return append(some(), "aaa", "ac", "c", "y", "zzzzz") }

// each calls f for all rows that some keys make, and each key that is asked for.
func each(f func(r api.Rows, key string)) {
	for set := range 1 << len(some()) {
		for _, k := range asked() {
			f(rowsOf(set), k)
		}
	}
}

// has looks row by row: slower than Get, and not the same way.
func has(r api.Rows, key string) (int, bool) {
	for _, p := range r {
		if p.Key == key {
			return p.N, true
		}
	}
	return 0, false
}

func TestGet(t *testing.T) {
	each(func(r api.Rows, key string) {
		n, ok := Get(r, key)
		if wn, wok := has(r, key); n != wn || ok != wok {
			t.Errorf("Get(%v, %q): %d %v, not %d %v", r, key, n, ok, wn, wok)
		}
	})
}

// A key that has 0 is not one that has nothing.
func TestGetNought(t *testing.T) {
	if n, ok := Get(api.Rows{{Key: "a"}}, "a"); n != 0 || !ok {
		t.Errorf("%d %v", n, ok)
	}
	if n, ok := Get(nil, "a"); n != 0 || ok {
		t.Errorf("of none: %d %v", n, ok)
	}
}

// others tells whether all keys but key have the same in a and in b.
func others(a, b api.Rows, key string) bool {
	for _, k := range asked() {
		an, aok := has(a, k)
		bn, bok := has(b, k)
		if k != key && (an != bn || aok != bok) {
			return false
		}
	}
	return true
}

func TestPut(t *testing.T) {
	each(func(r api.Rows, key string) {
		for _, n := range []int{0, 7, -7, api.MaxNum, -api.MaxNum} {
			got := Put(r, key, n)
			if gn, ok := has(got, key); gn != n || !ok || !others(r, got, key) || Wrong(got) != api.OK {
				t.Errorf("Put(%v, %q, %d): %v", r, key, n, got)
			}
		}
	})
}

// Put takes any number as it is: whether rows are right Wrong tells.
func TestPutAnyNumber(t *testing.T) {
	for _, n := range []int{api.MaxNum + 1, -api.MaxNum - 1, math.MaxInt, math.MinInt} {
		got := Put(api.Rows{{Key: "b", N: 2}}, "a", n)
		if !slices.Equal(got, api.Rows{{Key: "a", N: n}, {Key: "b", N: 2}}) {
			t.Errorf("%d: %v", n, got)
		}
	}
}

func TestDrop(t *testing.T) {
	each(func(r api.Rows, key string) {
		got := Drop(r, key)
		if _, ok := has(got, key); ok || !others(r, got, key) || Wrong(got) != api.OK {
			t.Errorf("Drop(%v, %q): %v", r, key, got)
		}
	})
}

func TestPutEitherWay(t *testing.T) {
	want := api.Rows{{Key: "a", N: 1}, {Key: "b", N: 2}}
	for _, got := range []api.Rows{
		Put(Put(nil, "a", 1), "b", 2),
		Put(Put(nil, "b", 2), "a", 1),
		Put(Put(Put(api.Rows{}, "a", 9), "b", 2), "a", 1),
		Drop(Put(Put(Put(nil, "c", 3), "b", 2), "a", 1), "c"),
	} {
		if !slices.Equal(got, want) {
			t.Errorf("%v, not %v", got, want)
		}
	}
}

func TestRound(t *testing.T) {
	const m = api.MaxNum
	for _, c := range [][2]int{
		{0, 0}, {1, 1}, {-1, -1}, {m - 1, m - 1}, {m, m}, {-m, -m},
		{m + 1, 0}, {-m - 1, 0}, {m + 2, 1}, {-m - 2, -1},
		{2*m + 1, m}, {-2*m - 1, -m}, {2*m + 2, 0}, {-2*m - 2, 0},
		{m * m, 1}, {-m * m, -1}, {1 << 62, 4}, {-1 << 62, -4},
		{math.MaxInt, 7}, {math.MinInt, -8},
	} {
		if got := Round(c[0]); got != c[1] {
			t.Errorf("Round(%d): %d, not %d", c[0], got, c[1])
		}
	}
}

// roomy answers r with spare room behind it, and the whole of that memory.
func roomy(r api.Rows) (list, whole api.Rows) {
	whole = append(slices.Clone(r), api.Pair{Key: "spare", N: 1}, api.Pair{Key: "room", N: 2})
	return whole[:len(r)], whole
}

// Whatever comes of a call, neither side can change what the other one has.
func TestNothingIsShared(t *testing.T) {
	for name, call := range map[string]func(r api.Rows, key string) api.Rows{
		"Put":  func(r api.Rows, key string) api.Rows { return Put(r, key, 7) },
		"Drop": Drop,
	} {
		each(func(r api.Rows, key string) {
			list, whole := roomy(r)
			before := slices.Clone(whole)
			got := call(list, key)
			if !slices.Equal(whole, before) {
				t.Fatalf("%s(%v, %q) changes what it is handed: %v", name, r, key, whole)
			}
			kept := slices.Clone(got)
			clear(whole)
			if !slices.Equal(got, kept) {
				t.Fatalf("%s(%v, %q) keeps what it is handed", name, r, key)
			}
			copy(whole, before)
			clear(got[:cap(got)])
			if !slices.Equal(whole, before) {
				t.Fatalf("%s(%v, %q) answers what it is handed", name, r, key)
			}
		})
	}
}

func TestReadersOnlyRead(t *testing.T) {
	each(func(r api.Rows, key string) {
		list, whole := roomy(r)
		before := slices.Clone(whole)
		Wrong(list)
		if _, ok := Get(list, "spare"); ok {
			t.Fatalf("Get(%v) looks at the spare room", r)
		}
		Get(list, key)
		if !slices.Equal(whole, before) {
			t.Fatalf("%v is changed: %v", before, whole)
		}
	})
}

// Of rows that are wrong, and of what is no key, nothing is promised but that
// calls end.
func TestWrongRowsDoNotPanic(t *testing.T) {
	for _, r := range []api.Rows{
		nil,
		{{}},
		{{}, {}, {}},
		{{Key: "c"}, {Key: "b"}, {Key: "a"}},
		{{Key: "a"}, {Key: "a"}, {Key: "a"}},
		{{Key: "\xff", N: math.MinInt}, {Key: "A", N: math.MaxInt}},
		{{Key: strings.Repeat("a", 1000)}},
	} {
		for _, k := range []string{"", "a", "b", "A", "\xff", strings.Repeat("z", 1000)} {
			Wrong(r)
			Get(r, k)
			Put(r, k, math.MinInt)
			Drop(r, k)
		}
	}
}
