package keymaps_test

import (
	"maps"
	"math"
	"math/bits"
	"math/rand"
	"slices"
	"testing"

	"paternoster/api"
	"paternoster/keymaps"
)

// put puts a key in that may be put in.
func put(t *testing.T, m *keymaps.Map, key uint64, v int) {
	t.Helper()
	if e := m.Put(key, v); e != api.OK {
		t.Fatalf("Put(%d, %d) of %d keys: %v", key, v, m.Len(), e)
	}
}

// drop drops a key that is there.
func drop(t *testing.T, m *keymaps.Map, key uint64) {
	t.Helper()
	if !m.Drop(key) {
		t.Fatalf("Drop(%d) of %d keys: it is not there", key, m.Len())
	}
}

// with returns a map with the given keys, each of which has its index as its
// number.
func with(t *testing.T, keys []uint64) *keymaps.Map {
	t.Helper()
	m := keymaps.New()
	for i, key := range keys {
		put(t, m, key, i)
	}
	return m
}

// count returns n keys from the first one on.
func count(first uint64, n int) []uint64 {
	out := make([]uint64, n)
	for i := range out {
		out[i] = first + uint64(i)
	}
	return out
}

// shapes contains lists of different keys that have little in common with each
// other, or much.
func shapes() map[string][]uint64 {
	r := rand.New(rand.NewSource(7))
	out := map[string][]uint64{
		"few":        {5, 9, 1, 7},
		"neighbours": count(1, 3000),
		"last":       count(math.MaxUint64-2999, 3000),
		"limit":      count(1000, api.MaxList),
	}
	for i := range 3000 {
		out["random"] = append(out["random"], 1+uint64(r.Int63()))
		out["high"] = append(out["high"], uint64(i+1)<<48)
		out["golden"] = append(out["golden"], uint64(i+1)*0x9e3779b97f4a7c15)
		// The inverse of that number: the products with it are i + 1.
		out["inverse"] = append(out["inverse"], uint64(i+1)*0xf1de83e19937733d)
	}
	for i := range 64 {
		out["powers"] = append(out["powers"], 1<<i)
	}
	return out
}

// has fails unless a map has the given keys and numbers, and no others.
func has(t *testing.T, m *keymaps.Map, want map[uint64]int) {
	t.Helper()
	got := m.Keys()
	if keys := slices.Sorted(maps.Keys(want)); !slices.Equal(got, keys) || cap(got) != len(got) || m.Len() != len(keys) {
		t.Fatalf("Len %d, Keys %v of the capacity %d; want %v", m.Len(), got, cap(got), keys)
	}
	for key, v := range want {
		if x, found := m.Get(key); x != v || !found {
			t.Fatalf("Get(%d): %d, %v; want %d", key, x, found, v)
		}
		for _, other := range []uint64{key - 1, key + 1, ^key, bits.Reverse64(key)} {
			if _, there := want[other]; !there {
				lacks(t, m, other)
			}
		}
	}
	for _, key := range []uint64{0, 1, 2, 1 << 32, 1 << 63, math.MaxUint64} {
		if _, there := want[key]; !there {
			lacks(t, m, key)
		}
	}
}

// lacks fails unless a key is not there.
func lacks(t *testing.T, m *keymaps.Map, key uint64) {
	t.Helper()
	if x, found := m.Get(key); x != 0 || found {
		t.Fatalf("Get(%d): %d, %v; it is not there", key, x, found)
	}
}

// bounds fails unless the slots of a map are as many as they may be, if it had
// at most so many keys.
func bounds(t *testing.T, m *keymaps.Map, most int) {
	t.Helper()
	n, tombs := m.Slots(), m.Tombs()
	switch {
	case n != 0 && (n < 8 || bits.OnesCount(uint(n)) != 1):
		t.Fatalf("%d slots: no power of two from 8 on", n)
	case tombs < 0 || 4*(m.Len()+tombs) > 3*n:
		t.Fatalf("%d keys and %d tombs in %d slots", m.Len(), tombs, n)
	case n > max(8, 8*most):
		t.Fatalf("%d slots for at most %d keys", n, most)
	}
}

// P7.1
func TestNew(t *testing.T) {
	m := keymaps.New()
	if m == nil || m.Slots() != 0 || m.Tombs() != 0 {
		t.Fatalf("New: %v", m)
	}
	has(t, m, nil)
	if other := keymaps.New(); other == m {
		t.Error("two new maps are one")
	}
}

// Chapter 07: the zero Map is a map without keys, which can be used.
func TestZero(t *testing.T) {
	var m keymaps.Map
	has(t, &m, nil)
	bounds(t, &m, 0)
	if m.Drop(1) || m.Drop(0) || m.Slots() != 0 || m.Tombs() != 0 {
		t.Error("the zero Map is not empty")
	}
	if c := m.Copy(); c == nil || c.Len() != 0 {
		t.Errorf("Copy: %v", c)
	}
	m.Clear()
	put(t, &m, 3, 30)
	has(t, &m, map[uint64]int{3: 30})
}

// Chapter 07: a nil Map has no keys, and Put refuses all.
func TestNil(t *testing.T) {
	var m *keymaps.Map
	if m.Len() != 0 || m.Slots() != 0 || m.Tombs() != 0 || len(m.Keys()) != 0 || m.Copy() != nil {
		t.Error("a nil Map has something")
	}
	m.Clear()
	for _, key := range []uint64{0, 1, 5, math.MaxUint64} {
		if e := m.Put(key, 1); e != api.ErrNil {
			t.Errorf("Put(%d): %v", key, e)
		}
		if m.Drop(key) {
			t.Errorf("Drop(%d): it is there", key)
		}
		lacks(t, m, key)
	}
}

// P7.1, P7.2, P7.4: keys of all sorts, in several orders.
func TestPut(t *testing.T) {
	r := rand.New(rand.NewSource(2))
	for name, keys := range shapes() {
		for range 3 {
			m, want := keymaps.New(), map[uint64]int{}
			for i, key := range keys {
				put(t, m, key, i)
				want[key] = i
				bounds(t, m, len(want))
				if i < 40 || i%500 == 0 {
					has(t, m, want)
				}
			}
			if m.Tombs() != 0 {
				t.Errorf("%s: %d tombs, and no key was dropped", name, m.Tombs())
			}
			has(t, m, want)
			r.Shuffle(len(keys), func(i, k int) { keys[i], keys[k] = keys[k], keys[i] })
		}
	}
}

// P7.2: any number may be that of a key, and becomes another one.
func TestPutAgain(t *testing.T) {
	m := keymaps.New()
	for i, v := range []int{1, 0, -1, math.MaxInt, math.MinInt, 1 << 40, 0} {
		put(t, m, 8, v)
		put(t, m, 9, i)
		has(t, m, map[uint64]int{8: v, 9: i})
	}
	for _, keys := range shapes() {
		m, want := with(t, keys), map[uint64]int{}
		slots := m.Slots()
		for i, key := range keys {
			put(t, m, key, -i)
			want[key] = -i
		}
		has(t, m, want)
		if m.Slots() != slots || m.Tombs() != 0 {
			t.Errorf("numbers changed: %d slots, %d tombs; there were %d slots", m.Slots(), m.Tombs(), slots)
		}
	}
}

// P7.2: the key 0, with and without keys.
func TestPutErrKey(t *testing.T) {
	for _, n := range []int{0, 1, 5, 6, 7, 100, api.MaxList} {
		m := with(t, count(1, n))
		slots := m.Slots()
		if e := m.Put(0, 1); e != api.ErrKey {
			t.Errorf("Put(0, 1) of %d keys: %v", n, e)
		}
		if m.Drop(0) {
			t.Errorf("Drop(0) of %d keys: it is there", n)
		}
		if m.Len() != n || m.Slots() != slots || m.Tombs() != 0 {
			t.Errorf("%d keys became %d, %d slots became %d, with %d tombs", n, m.Len(), slots, m.Slots(), m.Tombs())
		}
		lacks(t, m, 0)
	}
}

// P7.2: as many keys as there may be.
func TestPutErrLimit(t *testing.T) {
	keys := count(1, api.MaxList)
	for _, drops := range []int{0, 1, 1000, api.MaxList} {
		m, want := with(t, keys), map[uint64]int{}
		for _, key := range keys[:drops] {
			drop(t, m, key)
		}
		for i, key := range keys {
			put(t, m, key, i)
			want[key] = i
		}
		slots, tombs := m.Slots(), m.Tombs()
		for _, key := range []uint64{api.MaxList + 1, 1 << 20, math.MaxUint64} {
			if e := m.Put(key, 1); e != api.ErrLimit {
				t.Errorf("Put(%d) of a new key: %v", key, e)
			}
		}
		if m.Slots() != slots || m.Tombs() != tombs {
			t.Errorf("Put without effect: %d slots, %d tombs; there were %d, %d", m.Slots(), m.Tombs(), slots, tombs)
		}
		has(t, m, want)
		put(t, m, 77, -77)
		drop(t, m, 78)
		put(t, m, 1<<20, 5)
		want[77], want[1<<20] = -77, 5
		delete(want, 78)
		has(t, m, want)
		if e := m.Put(78, 1); e != api.ErrLimit {
			t.Errorf("Put of the key that was dropped: %v", e)
		}
		bounds(t, m, api.MaxList)
	}
}

// P7.3, P7.4: a dropped key leaves a tomb, and the others where they are.
func TestDrop(t *testing.T) {
	for name, keys := range shapes() {
		m, want := with(t, keys), map[uint64]int{}
		for i, key := range keys {
			want[key] = i
		}
		slots := m.Slots()
		for i, key := range keys {
			if m.Tombs() != i || m.Slots() != slots {
				t.Fatalf("%s: %d tombs in %d slots, after %d drops in %d slots", name, m.Tombs(), m.Slots(), i, slots)
			}
			drop(t, m, key)
			delete(want, key)
			if m.Drop(key) || m.Len() != len(want) {
				t.Fatalf("%s: Drop(%d) again: Len %d", name, key, m.Len())
			}
			lacks(t, m, key)
			if i < 20 || i%500 == 0 {
				has(t, m, want)
			}
			bounds(t, m, len(keys))
		}
		has(t, m, nil)
		for i, key := range keys {
			put(t, m, key, 5*i)
			want[key] = 5 * i
		}
		has(t, m, want)
		bounds(t, m, len(keys))
	}
}

// P7.3: what is not there is not dropped, and leaves no tomb.
func TestDropNone(t *testing.T) {
	for _, keys := range shapes() {
		m, want := with(t, keys), map[uint64]int{}
		for i, key := range keys {
			want[key] = i
		}
		slots := m.Slots()
		for _, key := range keys {
			for _, other := range []uint64{0, key - 1, key + 1, ^key} {
				if _, there := want[other]; !there && m.Drop(other) {
					t.Fatalf("Drop(%d): it is there", other)
				}
			}
		}
		has(t, m, want)
		if m.Slots() != slots || m.Tombs() != 0 {
			t.Errorf("%d slots, %d tombs; there were %d slots", m.Slots(), m.Tombs(), slots)
		}
	}
}

// P7.3, P7.4: Clear, and what comes after it.
func TestClear(t *testing.T) {
	for _, n := range []int{0, 1, 6, 7, 500, api.MaxList} {
		m := with(t, count(1, n))
		for _, key := range count(1, n/2) {
			drop(t, m, key)
		}
		for range 2 {
			m.Clear()
			has(t, m, nil)
			if m.Slots() != 0 || m.Tombs() != 0 {
				t.Errorf("%d keys, Clear: %d slots, %d tombs", n, m.Slots(), m.Tombs())
			}
		}
		// The keys that there were ahead of Clear do not count any more.
		want := map[uint64]int{}
		for i, key := range count(3, 20) {
			put(t, m, key, -i)
			want[key] = -i
			bounds(t, m, len(want))
		}
		has(t, m, want)
	}
}

// P7.4: few keys, of which always others are there.
func TestSlotsOfFewKeys(t *testing.T) {
	for _, n := range []int{1, 2, 5, 6, 7, 12, 13, 100, 3072, 3073, api.MaxList} {
		m := keymaps.New()
		for i := range 5 * api.MaxList {
			if i >= n {
				drop(t, m, uint64(i-n+1))
			}
			put(t, m, uint64(i+1), i)
			bounds(t, m, min(i+1, n))
		}
		if n := min(n, 5*api.MaxList); m.Len() != n {
			t.Errorf("%d keys, want %d", m.Len(), n)
		}
		for i := 5*api.MaxList - n; i < 5*api.MaxList; i++ {
			if v, found := m.Get(uint64(i + 1)); v != i || !found {
				t.Fatalf("Get(%d): %d, %v", i+1, v, found)
			}
		}
	}
}

// P7.4: one key comes and goes, beside others.
func TestSlotsOfOneKey(t *testing.T) {
	for _, n := range []int{0, 1, 4, 5, 6, 11, 12, 3000, api.MaxList - 1} {
		m := with(t, count(10, n))
		for i := range 3000 {
			put(t, m, 5, i)
			bounds(t, m, n+1)
			if v, found := m.Get(5); v != i || !found {
				t.Fatalf("Get(5): %d, %v; want %d", v, found, i)
			}
			drop(t, m, 5)
			bounds(t, m, n+1)
			lacks(t, m, 5)
		}
	}
}

// P7.5: a copy is equal, and neither of the two is changed with the other.
func TestCopy(t *testing.T) {
	for _, keys := range shapes() {
		m, want := with(t, keys), map[uint64]int{}
		for i, key := range keys {
			want[key] = i
		}
		for _, key := range keys[:len(keys)/3] {
			drop(t, m, key)
			delete(want, key)
		}
		c := m.Copy()
		has(t, c, want)
		if c == m || c.Slots() != m.Slots() || c.Tombs() != m.Tombs() {
			t.Errorf("the copy has %d slots and %d tombs, the map %d and %d", c.Slots(), c.Tombs(), m.Slots(), m.Tombs())
		}
		slots, tombs := m.Slots(), m.Tombs()
		other := change(t, c, want)
		has(t, m, want)
		has(t, c, other)
		if m.Slots() != slots || m.Tombs() != tombs {
			t.Errorf("the map has %d slots and %d tombs now, it had %d and %d", m.Slots(), m.Tombs(), slots, tombs)
		}
		d := m.Copy()
		change(t, m, want)
		has(t, d, want)
		m.Clear()
		has(t, d, want)
		has(t, c, other)
	}
}

// change changes numbers of a map, drops a key, and puts another one in. It
// returns what the map has then.
func change(t *testing.T, m *keymaps.Map, l map[uint64]int) map[uint64]int {
	t.Helper()
	out := map[uint64]int{}
	keys := slices.Sorted(maps.Keys(l))
	for i, key := range keys {
		put(t, m, key, 1000000+i)
		out[key] = 1000000 + i
	}
	last := keys[len(keys)-1]
	drop(t, m, last)
	delete(out, last)
	put(t, m, 3<<61, -3)
	out[3<<61] = -3
	return out
}

// P7.1: results are new memory.
func TestKeysMemory(t *testing.T) {
	m := with(t, []uint64{9, 5, 7})
	l := m.Keys()
	l[0], l[1], l[2] = 100, 200, 300
	has(t, m, map[uint64]int{9: 0, 5: 1, 7: 2})
}

// P7.1 to P7.6: all short runs with a few keys.
func TestShortRuns(t *testing.T) {
	keys := []uint64{1, 2, math.MaxUint64}
	const kinds, length = 7, 6
	for run := range int(math.Pow(kinds, length)) {
		m, want, most := keymaps.New(), map[uint64]int{}, 0
		for rest, step := run, 0; step < length; rest, step = rest/kinds, step+1 {
			switch kind := rest % kinds; {
			case kind < 3:
				put(t, m, keys[kind], step)
				want[keys[kind]] = step
			case kind < 6:
				_, there := want[keys[kind-3]]
				if m.Drop(keys[kind-3]) != there {
					t.Fatalf("run %d, step %d: Drop: %v", run, step, !there)
				}
				delete(want, keys[kind-3])
			default:
				m.Clear()
				clear(want)
				most = 0
			}
			most = max(most, len(want))
			bounds(t, m, most)
		}
		has(t, m, want)
	}
}

// P7.1 to P7.6: long runs beside a map of the language, which grow and shrink.
func TestLongRuns(t *testing.T) {
	r := rand.New(rand.NewSource(3))
	for _, span := range []int{3, 10, 100, 6000} {
		for _, factor := range []uint64{1, 1 << 50, 0xf1de83e19937733d} {
			m, want, most := keymaps.New(), map[uint64]int{}, 0
			for i := range 20000 {
				key := uint64(1+r.Intn(span)) * factor
				_, there := want[key]
				// Half of the time more keys are put in, then more are dropped.
				switch x := r.Intn(10); {
				case x < 2+6*(i/5000%2):
					if m.Drop(key) != there {
						t.Fatalf("Drop(%d): %v", key, !there)
					}
					delete(want, key)
				case !there && len(want) == api.MaxList:
					if e := m.Put(key, i); e != api.ErrLimit {
						t.Fatalf("Put(%d): %v", key, e)
					}
				default:
					put(t, m, key, i)
					want[key] = i
				}
				most = max(most, len(want))
				bounds(t, m, most)
				if i%1000 == 0 {
					has(t, m, want)
				}
			}
			has(t, m, want)
		}
	}
}

// P7.6: what is there depends on the last call for each key alone.
func TestLastCalls(t *testing.T) {
	r := rand.New(rand.NewSource(4))
	for range 50 {
		keys := count(1+uint64(r.Intn(1000)), 1+r.Intn(300))
		want := map[uint64]int{}
		for i, key := range keys {
			if r.Intn(3) > 0 {
				want[key] = i
			}
		}
		for range 3 {
			m := keymaps.New()
			for i := range r.Intn(2000) {
				if key := keys[r.Intn(len(keys))]; r.Intn(2) == 0 {
					put(t, m, key, -i)
				} else {
					m.Drop(key)
				}
			}
			for _, i := range r.Perm(len(keys)) {
				if v, there := want[keys[i]]; there {
					put(t, m, keys[i], v)
				} else {
					m.Drop(keys[i])
				}
			}
			has(t, m, want)
		}
	}
}

// P7.1 to P7.3: the examples of chapter 07.
func TestExamples(t *testing.T) {
	m := keymaps.New()
	if m.Len() != 0 || m.Slots() != 0 {
		t.Errorf("Len %d, Slots %d", m.Len(), m.Slots())
	}
	lacks(t, m, 1)
	put(t, m, 5, 50)
	put(t, m, 9, 90)
	put(t, m, 5, 51)
	has(t, m, map[uint64]int{5: 51, 9: 90})
	if !m.Drop(5) || m.Drop(5) {
		t.Error("Drop(5)")
	}
	has(t, m, map[uint64]int{9: 90})
	if e := m.Put(0, 1); e != api.ErrKey {
		t.Error(e)
	}
	has(t, m, map[uint64]int{9: 90})
}
