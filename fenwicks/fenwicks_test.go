package fenwicks_test

import (
	"math"
	"slices"
	"testing"

	"paternoster/api"
	"paternoster/fenwicks"
)

// tree returns a tree of sizes that are valid.
func tree(t *testing.T, sizes ...int64) *fenwicks.Tree {
	t.Helper()
	x, e := fenwicks.New(sizes)
	if x == nil || e != api.OK {
		t.Fatalf("New(%v): %v, %v", sizes, x, e)
	}
	return x
}

// many returns n sizes that follow no simple order, a quarter of them 0.
func many(n int) []int64 {
	out := make([]int64, n)
	r := uint32(n)
	for i := range out {
		r = r*1664525 + 1013904223
		out[i] = max(0, int64(r>>20)-1024)
	}
	return out
}

// full returns n sizes of 1.
func full(n int) []int64 {
	return slices.Repeat([]int64{1}, n)
}

// lists contains lists of sizes that are valid: all those of a few small
// sizes, and lengths about the powers of two, where a tree has another shape.
func lists() [][]int64 {
	out := [][]int64{nil, {}}
	last := [][]int64{nil}
	for range 5 {
		var next [][]int64
		for _, l := range last {
			for size := range int64(3) {
				next = append(next, append(slices.Clone(l), size))
			}
		}
		out = append(out, next...)
		last = next
	}
	for _, n := range []int{6, 7, 8, 9, 15, 16, 17, 31, 33, 64, 100} {
		out = append(out, many(n), full(n), make([]int64, n))
	}
	return append(out,
		[]int64{api.MaxHeight},
		[]int64{api.MaxHeight, api.MaxHeight},
		[]int64{0, api.MaxHeight, 0, 0, api.MaxHeight, 0},
		[]int64{1, api.MaxHeight, api.MaxHeight - 1},
	)
}

// wrong contains lists of sizes that are not valid, and their errors.
func wrong() []struct {
	l []int64
	e api.Errno
} {
	const h = api.MaxHeight
	return []struct {
		l []int64
		e api.Errno
	}{
		{[]int64{-1}, api.ErrHeight},
		{[]int64{h + 1}, api.ErrHeight},
		{[]int64{math.MinInt64}, api.ErrHeight},
		{[]int64{math.MaxInt64}, api.ErrHeight},
		{[]int64{3, 0, 5, -2}, api.ErrHeight},
		{[]int64{h, h, 1}, api.ErrOverflow},
		{[]int64{h, h, h, h, h, h}, api.ErrOverflow},
		{[]int64{h, 1, h, 0}, api.ErrOverflow},
		{[]int64{h, h, h + 1}, api.ErrHeight},     // both of one size
		{[]int64{h, h, 1, -1}, api.ErrOverflow},   // the first size that has one
		{[]int64{h, -1, h, 1}, api.ErrHeight},     // the first size that has one
		{[]int64{h, h, 0, 0, 1}, api.ErrOverflow}, // not at once
		{full(api.MaxList + 1), api.ErrLimit},     // each size is right
		{append([]int64{-1}, full(api.MaxList)...), api.ErrLimit},
		{append([]int64{h, h}, full(api.MaxList)...), api.ErrLimit},
	}
}

// sumOf returns the sum of sizes, one by one.
func sumOf(sizes []int64) int64 {
	sum := int64(0)
	for _, size := range sizes {
		sum += size
	}
	return sum
}

// placeOf returns the least place whose sum with what is ahead is above x, and
// the rest, size by size.
func placeOf(sizes []int64, x int64) (int, int64) {
	for i, size := range sizes {
		if x < size {
			return i, x
		}
		x -= size
	}
	return -1, -1
}

// offsets returns the offsets about all sums, so far as they are valid.
func offsets(sizes []int64) []int64 {
	var out []int64
	total := sumOf(sizes)
	for i := range len(sizes) + 1 {
		for d := int64(-2); d <= 2; d++ {
			if x := sumOf(sizes[:i]) + d; 0 <= x && x < total {
				out = append(out, x)
			}
		}
	}
	slices.Sort(out)
	return slices.Compact(out)
}

// outside contains numbers that are neither indices nor offsets of few sizes.
func outside() []int {
	return []int{-1, -2, math.MinInt, math.MaxInt, math.MinInt + 1, math.MaxInt - 1, 1 << 32, 1 << 62, -1 << 62}
}

// same fails unless all that a tree tells is what sizes say.
func same(t *testing.T, x *fenwicks.Tree, sizes []int64) {
	t.Helper()
	n, total := len(sizes), sumOf(sizes)
	if x.Len() != n || x.Total() != total {
		t.Fatalf("%v: Len %d, Total %d; want %d, %d", sizes, x.Len(), x.Total(), n, total)
	}
	if got := x.List(); !slices.Equal(got, sizes) || cap(got) != len(got) {
		t.Fatalf("List: %v, capacity %d; want %v", got, cap(got), sizes)
	}
	for i := range n {
		if got, e := x.At(i); got != sizes[i] || e != api.OK {
			t.Fatalf("%v: At(%d): %d, %v; want %d", sizes, i, got, e, sizes[i])
		}
	}
	for i := range n + 1 {
		if got, e := x.Sum(i); got != sumOf(sizes[:i]) || e != api.OK {
			t.Fatalf("%v: Sum(%d): %d, %v; want %d", sizes, i, got, e, sumOf(sizes[:i]))
		}
	}
	for _, at := range offsets(sizes) {
		i, rest := placeOf(sizes, at)
		if gotI, gotRest, e := x.Find(at); gotI != i || gotRest != rest || e != api.OK {
			t.Fatalf("%v: Find(%d): %d, %d, %v; want %d, %d", sizes, at, gotI, gotRest, e, i, rest)
		}
	}
}

// P2.1
func TestCheck(t *testing.T) {
	for _, l := range append(lists(), full(api.MaxList), many(api.MaxList)) {
		if e := fenwicks.Check(l); e != api.OK {
			t.Errorf("%v: %v", l, e)
		}
	}
	for i, x := range wrong() {
		if e := fenwicks.Check(x.l); e != x.e {
			t.Errorf("list %d: %v; want %v", i, e, x.e)
		}
	}
}

// P2.1
func TestNewErrors(t *testing.T) {
	for i, x := range wrong() {
		if got, e := fenwicks.New(x.l); got != nil || e != x.e {
			t.Errorf("list %d: %v, %v; want no tree, %v", i, got, e, x.e)
		}
	}
}

// P2.1 to P2.3, P2.5
func TestLists(t *testing.T) {
	for _, l := range lists() {
		same(t, tree(t, l...), l)
	}
}

// P2.1 to P2.3, P2.5: the longest lists, at some places.
func TestLongLists(t *testing.T) {
	for _, n := range []int{1023, 1024, 1025, 2049, api.MaxList - 1, api.MaxList} {
		l := many(n)
		x := tree(t, l...)
		if x.Len() != n || x.Total() != sumOf(l) || !slices.Equal(x.List(), l) {
			t.Fatalf("%d sizes: Len %d, Total %d", n, x.Len(), x.Total())
		}
		sum := int64(0)
		for i, size := range l {
			at, e := x.At(i)
			ahead, f := x.Sum(i)
			if at != size || ahead != sum || e != api.OK || f != api.OK {
				t.Fatalf("%d sizes, place %d: %d, %d; want %d, %d", n, i, at, ahead, size, sum)
			}
			sum += size
			if size == 0 {
				continue
			}
			for _, rest := range []int64{0, size / 2, size - 1} {
				if got, r, e := x.Find(ahead + rest); got != i || r != rest || e != api.OK {
					t.Fatalf("%d sizes: Find(%d): %d, %d, %v; want %d, %d", n, ahead+rest, got, r, e, i, rest)
				}
			}
		}
		if all, e := x.Sum(n); all != sum || e != api.OK {
			t.Fatalf("%d sizes: Sum(%d): %d, %v; want %d", n, n, all, e, sum)
		}
	}
}

// P2.2, P2.3, P2.5
func TestWithoutSizes(t *testing.T) {
	for _, l := range [][]int64{nil, {}} {
		x := tree(t, l...)
		if x.Len() != 0 || x.Total() != 0 || len(x.List()) != 0 {
			t.Errorf("Len %d, Total %d, List %v", x.Len(), x.Total(), x.List())
		}
		if sum, e := x.Sum(0); sum != 0 || e != api.OK {
			t.Errorf("Sum(0): %d, %v", sum, e)
		}
		for _, i := range append(outside(), 0, 1) {
			if size, e := x.At(i); size != 0 || e != api.ErrRange {
				t.Errorf("At(%d): %d, %v", i, size, e)
			}
			if e := x.Set(i, 1); e != api.ErrRange {
				t.Errorf("Set(%d): %v", i, e)
			}
			if at, rest, e := x.Find(int64(i)); at != 0 || rest != 0 || e != api.ErrRange {
				t.Errorf("Find(%d): %d, %d, %v", i, at, rest, e)
			}
		}
		if sum, e := x.Sum(1); sum != 0 || e != api.ErrRange {
			t.Errorf("Sum(1): %d, %v", sum, e)
		}
	}
}

// P2.3
func TestAtAndSumErrors(t *testing.T) {
	for _, l := range lists() {
		x := tree(t, l...)
		for _, i := range append(outside(), len(l), len(l)+1, 2*len(l)+1) {
			if size, e := x.At(i); size != 0 || e != api.ErrRange {
				t.Errorf("%v: At(%d): %d, %v", l, i, size, e)
			}
			if i == len(l) {
				continue
			}
			if sum, e := x.Sum(i); sum != 0 || e != api.ErrRange {
				t.Errorf("%v: Sum(%d): %d, %v", l, i, sum, e)
			}
		}
	}
}

// P2.4
func TestSet(t *testing.T) {
	for _, l := range lists() {
		if len(l) == 0 || sumOf(l) > 1<<40 {
			continue
		}
		for i := range l {
			for _, size := range []int64{0, 1, l[i], l[i] + 1, 1000, api.MaxHeight} {
				x, want := tree(t, l...), slices.Clone(l)
				want[i] = size
				if e := x.Set(i, size); e != api.OK {
					t.Fatalf("%v: Set(%d, %d): %v", l, i, size, e)
				}
				same(t, x, want)
			}
		}
	}
}

// P2.4: one after the other, on one tree.
func TestSetManyTimes(t *testing.T) {
	for _, n := range []int{1, 2, 3, 5, 8, 16, 21, 64, 67} {
		want, to := many(n), many(3*n)
		x := tree(t, want...)
		for k, size := range to {
			i := k * 7 % n
			if e := x.Set(i, size); e != api.OK {
				t.Fatalf("Set(%d, %d): %v", i, size, e)
			}
			want[i] = size
			same(t, x, want)
		}
	}
}

// P2.4
func TestSetErrors(t *testing.T) {
	const h = api.MaxHeight
	for _, x := range []struct {
		l    []int64
		i    int
		size int64
		e    api.Errno
	}{
		{[]int64{3, 0, 5, 2}, -1, 1, api.ErrRange},
		{[]int64{3, 0, 5, 2}, 4, 1, api.ErrRange},
		{[]int64{3, 0, 5, 2}, math.MinInt, 1, api.ErrRange},
		{[]int64{3, 0, 5, 2}, math.MaxInt, 1, api.ErrRange},
		{[]int64{3, 0, 5, 2}, 4, -1, api.ErrRange}, // two errors
		{[]int64{h, h}, 2, 1, api.ErrRange},        // two errors
		{[]int64{3, 0, 5, 2}, 0, -1, api.ErrHeight},
		{[]int64{3, 0, 5, 2}, 3, h + 1, api.ErrHeight},
		{[]int64{3, 0, 5, 2}, 1, math.MinInt64, api.ErrHeight},
		{[]int64{3, 0, 5, 2}, 1, math.MaxInt64, api.ErrHeight},
		{[]int64{h, h, 0}, 2, h + 1, api.ErrHeight}, // two errors
		{[]int64{h, h, 0}, 2, 1, api.ErrOverflow},
		{[]int64{h, h, 0}, 2, h, api.ErrOverflow},
		{[]int64{h, h - 1, 1}, 1, h, api.ErrOverflow},
		{[]int64{h, h - 5, 5}, 2, 6, api.ErrOverflow},
	} {
		tr := tree(t, x.l...)
		if e := tr.Set(x.i, x.size); e != x.e {
			t.Errorf("%v: Set(%d, %d): %v; want %v", x.l, x.i, x.size, e, x.e)
		}
		same(t, tr, x.l)
	}
}

// P2.4: what a size was does not count any more when it becomes another one.
func TestSetAtTheGreatestTotal(t *testing.T) {
	const h = api.MaxHeight
	l := []int64{h, h - 5, 5}
	x := tree(t, l...)
	for _, s := range []struct {
		i    int
		size int64
	}{{0, h}, {1, h - 5}, {2, 5}, {2, 0}, {1, h}, {0, 0}, {2, h}, {1, 1}, {0, h - 1}} {
		if e := x.Set(s.i, s.size); e != api.OK {
			t.Fatalf("Set(%d, %d): %v", s.i, s.size, e)
		}
		l[s.i] = s.size
		same(t, x, l)
	}
}

// P2.5
func TestFindErrors(t *testing.T) {
	for _, l := range lists() {
		x := tree(t, l...)
		total := sumOf(l)
		for _, at := range []int64{-1, -2, math.MinInt64, total, total + 1, math.MaxInt64} {
			if i, rest, e := x.Find(at); i != 0 || rest != 0 || e != api.ErrRange {
				t.Errorf("%v: Find(%d): %d, %d, %v", l, at, i, rest, e)
			}
		}
	}
}

// P2.6
func TestConsequences(t *testing.T) {
	for _, l := range lists() {
		x := tree(t, l...)
		for i := range l {
			ahead, _ := x.Sum(i)
			size, _ := x.At(i)
			if with, e := x.Sum(i + 1); with != ahead+size || e != api.OK {
				t.Fatalf("%v: Sum(%d): %d, %v; want %d", l, i+1, with, e, ahead+size)
			}
			for _, rest := range []int64{0, 1, size / 2, size - 1} {
				if rest < 0 || rest >= size {
					continue
				}
				if got, r, e := x.Find(ahead + rest); got != i || r != rest || e != api.OK {
					t.Fatalf("%v: Find(%d): %d, %d, %v; want %d, %d", l, ahead+rest, got, r, e, i, rest)
				}
			}
		}
		for _, at := range offsets(l) {
			i, rest, e := x.Find(at)
			size, _ := x.At(i)
			if e != api.OK || size == 0 || rest < 0 || rest >= size {
				t.Fatalf("%v: Find(%d): %d, %d, %v of the size %d", l, at, i, rest, e, size)
			}
		}
	}
}

// Chapter 02: a nil Tree and the zero Tree are no objects.
func TestNoTree(t *testing.T) {
	for _, x := range []*fenwicks.Tree{nil, {}} {
		if x.Len() != 0 || x.Total() != 0 || len(x.List()) != 0 {
			t.Errorf("Len %d, Total %d, List %v", x.Len(), x.Total(), x.List())
		}
		for _, i := range append(outside(), 0, 1) {
			if size, e := x.At(i); size != 0 || e != api.ErrNil {
				t.Errorf("At(%d): %d, %v", i, size, e)
			}
			if sum, e := x.Sum(i); sum != 0 || e != api.ErrNil {
				t.Errorf("Sum(%d): %d, %v", i, sum, e)
			}
			if e := x.Set(i, -1); e != api.ErrNil {
				t.Errorf("Set(%d): %v", i, e)
			}
			if at, rest, e := x.Find(int64(i)); at != 0 || rest != 0 || e != api.ErrNil {
				t.Errorf("Find(%d): %d, %d, %v", i, at, rest, e)
			}
		}
	}
}

// P2.1 to P2.5: the examples of chapter 02.
func TestExamples(t *testing.T) {
	l := []int64{3, 0, 5, 2}
	x := tree(t, l...)
	same(t, x, l)
	for _, f := range []struct {
		x    int64
		i    int
		rest int64
	}{{0, 0, 0}, {2, 0, 2}, {3, 2, 0}, {9, 3, 1}} {
		if i, rest, e := x.Find(f.x); i != f.i || rest != f.rest || e != api.OK {
			t.Errorf("Find(%d): %d, %d, %v", f.x, i, rest, e)
		}
	}
	if e := x.Set(1, 4); e != api.OK {
		t.Error(e)
	}
	if i, rest, e := x.Find(3); i != 1 || rest != 0 || e != api.OK || x.Total() != 14 {
		t.Errorf("Find(3): %d, %d, %v; Total %d", i, rest, e, x.Total())
	}
}

// R4: a tree does not keep the sizes it is made of, arguments stay as they
// are, and what List returns is not shared.
func TestMemory(t *testing.T) {
	l := []int64{3, 0, 5, 2}
	x := tree(t, l...)
	if e := x.Set(0, 8); e != api.OK || !slices.Equal(l, []int64{3, 0, 5, 2}) {
		t.Errorf("the argument became %v, %v", l, e)
	}
	clear(l)
	same(t, x, []int64{8, 0, 5, 2})
	clear(x.List())
	same(t, x, []int64{8, 0, 5, 2})
	other := tree(t, x.List()...)
	if e := other.Set(2, 0); e != api.OK {
		t.Error(e)
	}
	same(t, x, []int64{8, 0, 5, 2})
	same(t, other, []int64{8, 0, 0, 2})
}
