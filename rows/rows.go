// Package rows has rows: see doc/01-rows.md.
package rows

import (
	"slices"
	"sort"

	"rankandfile/api"
)

// Key tells whether s is a key: 1 to MaxKey small letters.
func Key(s string) bool {
	if len(s) < 1 || len(s) > api.MaxKey {
		return false
	}
	for i := range len(s) {
		if s[i] < 'a' || s[i] > 'z' {
			return false
		}
	}
	return true
}

// Wrong tells the first thing that is wrong with r, row by row; OK: r is right.
func Wrong(r api.Rows) api.Errno {
	for i, p := range r {
		switch {
		case !Key(p.Key):
			return api.ErrName
		case i > 0 && p.Key <= r[i-1].Key:
			return api.ErrForm
		case p.N < -api.MaxNum || p.N > api.MaxNum:
			return api.ErrRange
		}
	}
	return api.OK
}

// Get tells what key has in r; false: it has nothing.
func Get(r api.Rows, key string) (int, bool) {
	at, there := find(r, key)
	if !there {
		return 0, false
	}
	return r[at].N, true
}

// Put answers r, but that key has n.
func Put(r api.Rows, key string, n int) api.Rows {
	below, above := around(r, key)
	return slices.Concat(below, api.Rows{{Key: key, N: n}}, above)
}

// Drop answers r, but that key has nothing.
func Drop(r api.Rows, key string) api.Rows {
	below, above := around(r, key)
	return slices.Concat(below, above)
}

// Round answers what is left of n, divided by MaxNum and 1; below 0, if n is.
func Round(n int) int {
	return n % (api.MaxNum + 1)
}

// find answers where key stands in r, or would stand, and whether it is there.
func find(r api.Rows, key string) (int, bool) {
	// Keys of right rows rise, so that halving finds the place.
	at := sort.Search(len(r), func(i int) bool { return r[i].Key >= key })
	return at, at < len(r) && r[at].Key == key
}

// around answers the rows below key, and those above it. They are parts of r:
// whoever hands them on must copy them.
func around(r api.Rows, key string) (below, above api.Rows) {
	at, there := find(r, key)
	if there {
		return r[:at], r[at+1:]
	}
	return r[:at], r[at:]
}
