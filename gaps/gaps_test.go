package gaps_test

import (
	"math"
	"runtime"
	"slices"
	"sync/atomic"
	"testing"
	"time"

	"paternoster/api"
	"paternoster/gaps"
)

// buffer returns a buffer with a list that is valid.
func buffer[T any](t *testing.T, l ...T) *gaps.Buffer[T] {
	t.Helper()
	b, e := gaps.New(l)
	if b == nil || e != api.OK {
		t.Fatalf("New of %d elements: %v, %v", len(l), b, e)
	}
	return b
}

// count returns n different numbers from the first one on.
func count(first, n int) []int {
	out := make([]int, n)
	for i := range out {
		out[i] = first + i
	}
	return out
}

// withGap returns a buffer with the numbers 0 to n - 1 and the gap at an
// index, which has the room for so many elements.
func withGap(t *testing.T, n, at, room int) *gaps.Buffer[int] {
	t.Helper()
	b := buffer(t, count(0, n)...)
	if room == 0 && at == n {
		return b
	}
	more := max(room, 1)
	if e := b.Insert(at, count(-more, more)...); e != api.OK {
		t.Fatal(e)
	}
	if e := b.Remove(at, more); e != api.OK {
		t.Fatal(e)
	}
	return b
}

// far contains numbers that are no indices of short lists.
func far() []int {
	return []int{-1, -2, math.MinInt, math.MinInt + 1, math.MaxInt, math.MaxInt - 1, 1 << 32, -1 << 32, 1 << 62}
}

// same fails unless a buffer contains a list, and has the gap at an index.
func same[T comparable](t *testing.T, b *gaps.Buffer[T], l []T, gap int) {
	t.Helper()
	got := b.List()
	if !slices.Equal(got, l) || cap(got) != len(got) || b.Len() != len(l) || b.Gap() != gap {
		t.Fatalf("List %v of the capacity %d, Len %d, Gap %d; want %v, %d, %d", got, cap(got), b.Len(), b.Gap(), l, len(l), gap)
	}
	for i, x := range l {
		if y, e := b.At(i); y != x || e != api.OK {
			t.Fatalf("At(%d): %v, %v; want %v", i, y, e, x)
		}
	}
}

// inserted returns a list with others put in.
func inserted(l []int, at int, x ...int) []int {
	return slices.Concat(l[:at], x, l[at:])
}

// removed returns a list without n elements from an index on.
func removed(l []int, at, n int) []int {
	return slices.Concat(l[:at], l[at+n:])
}

// moved returns a list of which n elements stand elsewhere.
func moved(l []int, at, n, to int) []int {
	return inserted(removed(l, at, n), to, l[at:at+n]...)
}

// each calls a function with buffers of all short lengths, and with the gap
// at each index of them, small or great.
func each(t *testing.T, f func(b *gaps.Buffer[int], l []int, gap int)) {
	t.Helper()
	for n := range 7 {
		for gap := range n + 1 {
			for _, room := range []int{0, 1, 2, 9} {
				f(withGap(t, n, gap, room), count(0, n), gap)
			}
		}
	}
}

// P3.1, P3.6
func TestNew(t *testing.T) {
	for _, n := range []int{0, 1, 2, 3, 5, 64, api.MaxList - 1, api.MaxList} {
		same(t, buffer(t, count(0, n)...), count(0, n), n)
	}
	for _, n := range []int{api.MaxList + 1, 2 * api.MaxList} {
		if b, e := gaps.New(count(0, n)); b != nil || e != api.ErrLimit {
			t.Errorf("New of %d elements: %v, %v", n, b, e)
		}
	}
	same(t, buffer(t, "a", "", "c"), []string{"a", "", "c"}, 3)
	same(t, buffer(t, struct{}{}, struct{}{}), make([]struct{}, 2), 2)
}

// P3.1: with the gap anywhere.
func TestList(t *testing.T) {
	each(t, func(b *gaps.Buffer[int], l []int, gap int) { same(t, b, l, gap) })
}

// P3.2, P3.6
func TestSet(t *testing.T) {
	each(t, func(b *gaps.Buffer[int], l []int, gap int) {
		for i := range l {
			if e := b.Set(i, 100+i); e != api.OK {
				t.Fatalf("Set(%d): %v", i, e)
			}
			l[i] = 100 + i
			same(t, b, l, gap)
		}
	})
}

// P3.2, P3.7
func TestAtAndSetErrors(t *testing.T) {
	each(t, func(b *gaps.Buffer[int], l []int, gap int) {
		for _, i := range append(far(), len(l), len(l)+1) {
			if x, e := b.At(i); x != 0 || e != api.ErrRange {
				t.Fatalf("At(%d) of %d: %v, %v", i, len(l), x, e)
			}
			if e := b.Set(i, 7); e != api.ErrRange {
				t.Fatalf("Set(%d) of %d: %v", i, len(l), e)
			}
		}
		same(t, b, l, gap)
	})
}

// P3.3, P3.6
func TestInsert(t *testing.T) {
	each(t, func(_ *gaps.Buffer[int], l []int, gap int) {
		for at := range len(l) + 1 {
			for _, n := range []int{1, 2, 3, 20} {
				for _, room := range []int{0, 1, 9} {
					b := withGap(t, len(l), gap, room)
					if e := b.Insert(at, count(50, n)...); e != api.OK {
						t.Fatalf("Insert(%d): %v", at, e)
					}
					same(t, b, inserted(l, at, count(50, n)...), at+n)
				}
			}
		}
	})
}

// P3.3, P3.6, P3.7
func TestInsertErrors(t *testing.T) {
	each(t, func(b *gaps.Buffer[int], l []int, gap int) {
		for _, at := range append(far(), len(l)+1) {
			if e := b.Insert(at, 1, 2); e != api.ErrRange {
				t.Fatalf("Insert(%d) of %d: %v", at, len(l), e)
			}
			if e := b.Insert(at); e != api.ErrRange {
				t.Fatalf("Insert(%d) of none: %v", at, e)
			}
			// Two errors.
			if e := b.Insert(at, count(0, api.MaxList+1)...); e != api.ErrRange {
				t.Fatalf("Insert(%d) of too many: %v", at, e)
			}
		}
		for at := range len(l) + 1 {
			if e := b.Insert(at, count(0, api.MaxList-len(l)+1)...); e != api.ErrLimit {
				t.Fatalf("Insert(%d) of one too many: %v", at, e)
			}
		}
		same(t, b, l, gap)
	})
}

// P3.3: the longest lists.
func TestInsertToTheLimit(t *testing.T) {
	for _, n := range []int{0, 1, 2047, 2048, 2049, api.MaxList - 1} {
		b, l := buffer(t, count(0, n)...), count(0, n)
		at := n / 2
		more := api.MaxList - n
		if e := b.Insert(at, count(9000, more)...); e != api.OK {
			t.Fatal(n, e)
		}
		l = inserted(l, at, count(9000, more)...)
		for _, k := range []int{0, 1, at, api.MaxList} {
			if e := b.Insert(k, 1); e != api.ErrLimit {
				t.Errorf("%d elements: Insert(%d): %v", api.MaxList, k, e)
			}
			if e := b.Insert(k); e != api.OK {
				t.Errorf("%d elements: Insert(%d) of none: %v", api.MaxList, k, e)
			}
		}
		same(t, b, l, at+more)
	}
	// One by one, at both ends in turn.
	b, l := &gaps.Buffer[int]{}, []int(nil)
	for i := range api.MaxList {
		at := i % 2 * len(l)
		if e := b.Insert(at, i); e != api.OK {
			t.Fatal(i, e)
		}
		l = inserted(l, at, i)
	}
	same(t, b, l, api.MaxList)
}

// P3.4, P3.6
func TestRemove(t *testing.T) {
	each(t, func(_ *gaps.Buffer[int], l []int, gap int) {
		for at := range l {
			for n := 1; at+n <= len(l); n++ {
				for _, room := range []int{0, 1, 2, 9} {
					b := withGap(t, len(l), gap, room)
					if e := b.Remove(at, n); e != api.OK {
						t.Fatalf("Remove(%d, %d): %v", at, n, e)
					}
					same(t, b, removed(l, at, n), at)
				}
			}
		}
	})
}

// wrongParts contains parts that a list of n elements does not have.
func wrongParts(n int) [][2]int {
	out := [][2]int{{0, n + 1}, {n, 1}, {n + 1, 0}, {n + 1, -1}, {n + 1, 1}, {1, n}, {n, math.MaxInt}, {math.MaxInt, math.MaxInt}, {math.MinInt, math.MinInt}}
	for _, x := range far() {
		out = append(out, [2]int{x, 0}, [2]int{x, 1}, [2]int{0, x}, [2]int{n, x}, [2]int{x, -x})
	}
	return out
}

// P3.4, P3.5, P3.6, P3.7
func TestRemoveAndMoveErrors(t *testing.T) {
	each(t, func(b *gaps.Buffer[int], l []int, gap int) {
		for _, p := range wrongParts(len(l)) {
			if e := b.Remove(p[0], p[1]); e != api.ErrRange {
				t.Fatalf("%d elements: Remove(%d, %d): %v", len(l), p[0], p[1], e)
			}
			for _, to := range append(far(), 0) {
				if e := b.Move(p[0], p[1], to); e != api.ErrRange {
					t.Fatalf("%d elements: Move(%d, %d, %d): %v", len(l), p[0], p[1], to, e)
				}
			}
		}
		for at := range len(l) + 1 {
			for n := range len(l) - at + 1 {
				for _, to := range append(far(), len(l)-n+1) {
					if e := b.Move(at, n, to); e != api.ErrRange {
						t.Fatalf("%d elements: Move(%d, %d, %d): %v", len(l), at, n, to, e)
					}
				}
			}
		}
		same(t, b, l, gap)
	})
}

// P3.5, P3.6
func TestMove(t *testing.T) {
	each(t, func(_ *gaps.Buffer[int], l []int, gap int) {
		for at := range l {
			for n := 1; at+n <= len(l); n++ {
				for to := range len(l) - n + 1 {
					b := withGap(t, len(l), gap, at%3)
					if e := b.Move(at, n, to); e != api.OK {
						t.Fatalf("Move(%d, %d, %d): %v", at, n, to, e)
					}
					same(t, b, moved(l, at, n, to), to+n)
				}
			}
		}
	})
}

// P3.3 to P3.6: with no element nothing changes.
func TestNoElement(t *testing.T) {
	each(t, func(b *gaps.Buffer[int], l []int, gap int) {
		for at := range len(l) + 1 {
			if e := b.Insert(at); e != api.OK {
				t.Fatalf("Insert(%d): %v", at, e)
			}
			if e := b.Remove(at, 0); e != api.OK {
				t.Fatalf("Remove(%d, 0): %v", at, e)
			}
			for to := range len(l) + 1 {
				if e := b.Move(at, 0, to); e != api.OK {
					t.Fatalf("Move(%d, 0, %d): %v", at, to, e)
				}
			}
			same(t, b, l, gap)
		}
	})
}

// P3.7
func TestConsequences(t *testing.T) {
	each(t, func(b *gaps.Buffer[int], l []int, _ int) {
		for at := range len(l) + 1 {
			for _, n := range []int{1, 2, 30} {
				e, f := b.Insert(at, count(50, n)...), b.Remove(at, n)
				if e != api.OK || f != api.OK || !slices.Equal(b.List(), l) {
					t.Fatalf("Insert(%d) of %d, Remove: %v, %v, %v", at, n, e, f, b.List())
				}
			}
			for n := range len(l) - at + 1 {
				for to := range len(l) - n + 1 {
					e, f := b.Move(at, n, to), b.Move(to, n, at)
					if e != api.OK || f != api.OK || !slices.Equal(b.List(), l) {
						t.Fatalf("Move(%d, %d, %d) and back: %v, %v, %v", at, n, to, e, f, b.List())
					}
				}
			}
		}
	})
}

// P3.1 to P3.6: many changes of one buffer, in no simple order.
func TestManyChanges(t *testing.T) {
	r := uint32(5)
	next := func(n int) int {
		r = r*1664525 + 1013904223
		return int(r>>8) % n
	}
	b, l, gap := &gaps.Buffer[int]{}, []int(nil), 0
	for i := range 3000 {
		at := next(len(l) + 1)
		n := min(next(1+next(9)), len(l)-at)
		to := next(len(l) - n + 1)
		var e api.Errno
		switch kind := next(4); {
		case kind == 0:
			x := count(10*i, next(7))
			e = b.Insert(at, x...)
			l = inserted(l, at, x...)
			if len(x) > 0 {
				gap = at + len(x)
			}
		case kind == 1 && n > 0:
			e = b.Remove(at, n)
			l, gap = removed(l, at, n), at
		case kind == 2 && n > 0:
			e = b.Move(at, n, to)
			l, gap = moved(l, at, n, to), to+n
		case at < len(l):
			e = b.Set(at, -i)
			l[at] = -i
		}
		if e != api.OK {
			t.Fatal(i, e)
		}
		same(t, b, l, gap)
	}
}

// Chapter 03: a nil Buffer has no elements, and refuses all.
func TestNil(t *testing.T) {
	var b *gaps.Buffer[string]
	if b.Len() != 0 || b.Gap() != 0 || len(b.List()) != 0 {
		t.Errorf("Len %d, Gap %d, List %v", b.Len(), b.Gap(), b.List())
	}
	for _, i := range append(far(), 0, 1) {
		if x, e := b.At(i); x != "" || e != api.ErrNil {
			t.Errorf("At(%d): %v, %v", i, x, e)
		}
		for _, e := range []api.Errno{b.Set(i, "x"), b.Insert(i), b.Insert(i, "x"), b.Insert(i, make([]string, api.MaxList+1)...), b.Remove(i, i), b.Remove(0, 0), b.Move(i, i, i), b.Move(0, 0, 0)} {
			if e != api.ErrNil {
				t.Errorf("with %d: %v", i, e)
			}
		}
	}
}

// Chapter 03: the zero Buffer is one without elements.
func TestZero(t *testing.T) {
	b := &gaps.Buffer[int]{}
	same(t, b, nil, 0)
	if _, e := b.At(0); e != api.ErrRange {
		t.Error(e)
	}
	for _, e := range []api.Errno{b.Remove(0, 0), b.Move(0, 0, 0), b.Insert(0)} {
		if e != api.OK {
			t.Error(e)
		}
	}
	same(t, b, nil, 0)
	if e := b.Insert(0, 4, 5); e != api.OK {
		t.Error(e)
	}
	same(t, b, []int{4, 5}, 2)
}

// P3.3 to P3.6: the examples of chapter 03.
func TestExamples(t *testing.T) {
	b := buffer(t, "a", "b", "c", "d", "e")
	if e := b.Insert(2, "x", "y"); e != api.OK {
		t.Error(e)
	}
	same(t, b, []string{"a", "b", "x", "y", "c", "d", "e"}, 4)
	if e := b.Remove(0, 3); e != api.OK {
		t.Error(e)
	}
	same(t, b, []string{"y", "c", "d", "e"}, 0)
	if e := b.Move(1, 2, 0); e != api.OK {
		t.Error(e)
	}
	same(t, b, []string{"c", "d", "y", "e"}, 2)
	if x, e := b.At(4); x != "" || e != api.ErrRange {
		t.Error(x, e)
	}
	for _, e := range []api.Errno{b.Insert(5, "x"), b.Remove(3, 2), b.Move(0, 2, 3)} {
		if e != api.ErrRange {
			t.Error(e)
		}
	}
	same(t, b, []string{"c", "d", "y", "e"}, 2)
}

// P3.7
func TestMemory(t *testing.T) {
	l := []int{1, 2, 3}
	b := buffer(t, l...)
	if e := b.Set(0, 9); e != api.OK || !slices.Equal(l, []int{1, 2, 3}) {
		t.Errorf("the argument became %v, %v", l, e)
	}
	clear(l)
	same(t, b, []int{9, 2, 3}, 3)
	more := []int{7, 8}
	if e := b.Insert(1, more...); e != api.OK {
		t.Error(e)
	}
	if e := b.Set(1, 6); e != api.OK || !slices.Equal(more, []int{7, 8}) {
		t.Errorf("the argument became %v, %v", more, e)
	}
	clear(more)
	same(t, b, []int{9, 6, 8, 2, 3}, 3)
	got := b.List()
	clear(got)
	same(t, b, []int{9, 6, 8, 2, 3}, 3)
	if other := b.List(); &other[0] == &got[0] {
		t.Error("two results share their memory")
	}
}

// block is what a buffer would keep in memory.
type block [1 << 10]byte

// blocks returns a buffer with n blocks and the gap at an index, and which of
// the blocks have been collected as garbage.
func blocks(t *testing.T, n, gap, room int) (*gaps.Buffer[*block], []atomic.Bool) {
	t.Helper()
	b, gone := &gaps.Buffer[*block]{}, make([]atomic.Bool, n)
	for i := range n {
		p := &block{}
		runtime.AddCleanup(p, func(i int) { gone[i].Store(true) }, i)
		if e := b.Insert(i, p); e != api.OK {
			t.Fatal(e)
		}
	}
	if e, f := b.Insert(gap, make([]*block, room)...), b.Remove(gap, room); e != api.OK || f != api.OK {
		t.Fatal(e, f)
	}
	return b, gone
}

// collected collects garbage until some blocks have gone, if they do. Blocks
// are told to have gone by another goroutine, which gets some time for it.
func collected(gone []atomic.Bool, at, n int) bool {
	for range 1000 {
		runtime.GC()
		if !slices.ContainsFunc(count(at, n), func(i int) bool { return !gone[i].Load() }) {
			return true
		}
		time.Sleep(time.Millisecond)
	}
	return false
}

// Chapter 03, Ways: what has gone is cleared, so that a buffer does not keep
// what it does not contain.
func TestCleared(t *testing.T) {
	const n = 4
	for gap := range n + 1 {
		for at := range n {
			for k := 1; at+k <= n; k++ {
				b, gone := blocks(t, n, gap, 1+8*(gap%2))
				if e := b.Remove(at, k); e != api.OK || !collected(gone, at, k) {
					t.Errorf("gap %d: Remove(%d, %d): %v, and it is kept", gap, at, k, e)
				}
				runtime.KeepAlive(b)
			}
		}
	}
}

// The same, if the gap has been shifted: no element stands in it.
func TestClearedGap(t *testing.T) {
	const n = 4
	for _, room := range []int{1, 2, 3, 9} {
		for from := range n + 1 {
			for to := range n + 1 {
				b, gone := blocks(t, n, from, room)
				// Without an element being removed, all of them are still there;
				// made nil, they stand nowhere else.
				e, f := b.Insert(to, nil), b.Remove(to, 1)
				for i := range n {
					b.Set(i, nil)
				}
				if e != api.OK || f != api.OK || !collected(gone, 0, n) {
					t.Errorf("room %d: the gap from %d to %d: %v, %v, and it keeps elements", room, from, to, e, f)
				}
				runtime.KeepAlive(b)
			}
		}
	}
}
