package keymaps

import (
	"math/rand"
	"testing"

	"paternoster/api"
)

// collide returns n keys for which the search begins at one slot, of so many.
func collide(n, at, slots int) []uint64 {
	var out []uint64
	for key := uint64(1); len(out) < n; key++ {
		if start(key, slots) == at {
			out = append(out, key)
		}
	}
	return out
}

// look fails unless the slots of a map are as its counts say.
func look(t *testing.T, m *Map) {
	t.Helper()
	keys, tombs := 0, 0
	for i, s := range m.slots {
		switch s.state {
		case taken:
			keys++
			if at, found := m.find(s.key); at != i || !found {
				t.Fatalf("the key %d stands in the slot %d, and is found in %d, %v", s.key, i, at, found)
			}
		case tomb:
			tombs++
		}
		if s.state != taken && s != (slot{state: s.state}) {
			t.Fatalf("the slot %d keeps %v", i, s)
		}
	}
	if keys != m.Len() || tombs != m.Tombs() || len(m.slots) != m.Slots() {
		t.Fatalf("%d keys and %d tombs in %d slots: Len %d, Tombs %d, Slots %d", keys, tombs, len(m.slots), m.Len(), m.Tombs(), m.Slots())
	}
}

// P7.4: the counts are those of the slots, through many changes.
func TestCounts(t *testing.T) {
	r := rand.New(rand.NewSource(1))
	for _, n := range []int{3, 9, 200} {
		m := New()
		look(t, m)
		for i := range 4000 {
			key := uint64(1 + r.Intn(n))
			if r.Intn(2) == 0 {
				m.Drop(key)
			} else if e := m.Put(key, i); e != api.OK {
				t.Fatal(e)
			}
			look(t, m)
		}
		look(t, m.Copy())
		m.Clear()
		look(t, m)
	}
}

// Chapter 07, Definitions: the search goes on round the end of the slots, and
// past tombs.
func TestRound(t *testing.T) {
	for at := range least {
		keys := collide(6, at, least)
		for gone := range len(keys) {
			m := New()
			for i, key := range keys {
				if e := m.Put(key, i); e != api.OK {
					t.Fatal(e)
				}
				if s := m.slots[(at+i)%least]; s.key != key {
					t.Fatalf("slot %d: %v, want the key %d", (at+i)%least, s, key)
				}
			}
			m.Drop(keys[gone])
			for i, key := range keys {
				if v, found := m.Get(key); found != (i != gone) || found && v != i {
					t.Fatalf("from %d on, without %d: Get(%d): %d, %v", at, gone, i, v, found)
				}
			}
			look(t, m)
		}
	}
}

// P7.4: a tomb on the way is used again, if there is room.
func TestTombAgain(t *testing.T) {
	for at := range least {
		keys := collide(4, at, least)
		m := New()
		for i, key := range keys[:3] {
			m.Put(key, i)
		}
		m.Drop(keys[0])
		m.Drop(keys[1])
		if m.Tombs() != 2 {
			t.Fatalf("%d tombs", m.Tombs())
		}
		m.Put(keys[2], 7)
		m.Put(keys[3], 8)
		if m.Tombs() != 1 || m.slots[at].key != keys[3] {
			t.Fatalf("%d tombs, slot %d: %v", m.Tombs(), at, m.slots[at])
		}
		look(t, m)
	}
}

// Where searches begin: at a slot that is there, and at each of them for some
// key.
func TestStart(t *testing.T) {
	for n := least; n <= 2*api.MaxList; n *= 2 {
		seen := make([]bool, n)
		for key := range uint64(40 * n) {
			for _, k := range []uint64{key, ^key, key << 50} {
				at := start(k, n)
				if at < 0 || at >= n {
					t.Fatalf("start(%d, %d): %d", k, n, at)
				}
				seen[at] = true
			}
		}
		for i, there := range seen {
			if !there {
				t.Errorf("%d slots: no search begins at %d", n, i)
			}
		}
	}
}
