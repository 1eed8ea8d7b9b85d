package ropes

import (
	"math/rand"
	"testing"
)

// sound fails unless each node of a tree is counted right, and is balanced.
func sound(t *testing.T, r Rope) {
	t.Helper()
	if r.root == nil {
		if r != (Rope{}) {
			t.Fatalf("no node is counted as %v", r)
		}
		return
	}
	n := r.root
	sound(t, n.left)
	sound(t, n.right)
	if d := n.left.depth - n.right.depth; d < -1 || d > 1 {
		t.Fatalf("the depths %d and %d stand side by side", n.left.depth, n.right.depth)
	}
	if build(n.left, n.size, n.right).counts() != r.counts() {
		t.Fatalf("the counts %v of a node are not those of its sides", r.counts())
	}
}

// counts returns a rope without its root.
func (r Rope) counts() Rope {
	r.root = nil
	return r
}

// lean returns the rope of a depth with the fewest sizes, whose deeper side is
// always the left one, or always the right one.
func lean(depth int, left bool) Rope {
	switch {
	case depth <= 0:
		return Rope{}
	case left:
		return build(lean(depth-1, left), 1, lean(depth-2, left))
	}
	return build(lean(depth-2, left), 1, lean(depth-1, left))
}

// P5.7: ropes with the fewest sizes, which are balanced only just, are divided
// and put together at each place.
func TestLean(t *testing.T) {
	for d := range 10 {
		for _, left := range []bool{false, true} {
			r := lean(d, left)
			sound(t, r)
			for at := range r.count + 1 {
				a, b := r.split(at)
				sound(t, a)
				sound(t, b)
				sound(t, join(b, a))
				sound(t, join(a, b))
				sound(t, r.put(at, Rope{}))
			}
			for other := range 10 {
				sound(t, link(r, 1, lean(other, left)))
				sound(t, link(r, 1, lean(other, !left)))
			}
		}
	}
}

// P5.7, P5.8: the trees of all ropes stay sound, whatever is done with them.
func TestSound(t *testing.T) {
	random := rand.New(rand.NewSource(1))
	var all []Rope
	for n := range 200 {
		sizes := make([]int64, n)
		for i := range sizes {
			sizes[i] = int64(random.Intn(9))
		}
		r, _ := Of(sizes)
		all = append(all, r)
	}
	for range 3000 {
		k := random.Intn(len(all))
		r, other := all[k], all[random.Intn(len(all))]
		at := random.Intn(r.count + 1)
		n := random.Intn(r.count - at + 1)
		to := random.Intn(r.count - n + 1)
		if r.count+other.count < 1000 {
			all[k] = r.put(at, other)
		} else {
			all[k], _ = r.Remove(at, n)
		}
		moved, _ := r.Move(at, n, to)
		sound(t, moved)
		sound(t, all[k])
		sound(t, r)
	}
}
