package store

import (
	"maps"
	"slices"
	"strings"
)

// table holds the pairs of the keys that have a value, by key.
type table map[string]Pair

// Get returns the value of a key, and whether it has one.
func (t table) Get(key string) (string, bool) {
	p, ok := t[key]
	return p.Value, ok
}

// Keys returns the keys that begin with prefix, in bytewise order.
func (t table) Keys(prefix string) []string {
	var keys []string
	for k := range t {
		if strings.HasPrefix(k, prefix) {
			keys = append(keys, k)
		}
	}
	slices.Sort(keys)
	return keys
}

// Size returns the total length of all keys and values.
func (t table) Size() int {
	n := 0
	for _, p := range t {
		n += p.length()
	}
	return n
}

// pairs returns all pairs, ordered by key: what is written to the disk must not
// hang on the order of a map.
func (t table) pairs() []Pair {
	return slices.SortedFunc(maps.Values(t), func(p, q Pair) int {
		return strings.Compare(p.Key, q.Key)
	})
}

// change makes the changes of pairs, in order. It keeps copies of the strings:
// those of a caller may be small parts of long ones.
func (t table) change(pairs ...Pair) {
	for _, p := range pairs {
		if p.Gone {
			delete(t, p.Key)
		} else {
			key := strings.Clone(p.Key)
			t[key] = Pair{Key: key, Value: strings.Clone(p.Value)}
		}
	}
}
