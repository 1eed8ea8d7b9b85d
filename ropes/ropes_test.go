package ropes_test

import (
	"math"
	"math/rand"
	"slices"
	"testing"

	"paternoster/api"
	"paternoster/fenwicks"
	"paternoster/ropes"
)

// rope returns the rope with sizes that are valid.
func rope(t *testing.T, sizes ...int64) ropes.Rope {
	t.Helper()
	r, e := ropes.Of(sizes)
	if e != api.OK {
		t.Fatalf("Of(%v): %v", sizes, e)
	}
	return r
}

// rising returns n sizes that are all different, from a number on.
func rising(n int, from int64) []int64 {
	out := make([]int64, n)
	for i := range out {
		out[i] = from + int64(i)
	}
	return out
}

// mixed returns n sizes, some of which are 0.
func mixed(r *rand.Rand, n int) []int64 {
	out := make([]int64, n)
	for i := range out {
		out[i] = max(0, int64(r.Intn(100))-20)
	}
	return out
}

// full returns n sizes of 1.
func full(n int) []int64 { return slices.Repeat([]int64{1}, n) }

// lists contains lists of sizes that are valid: all those of a few small
// sizes, and longer ones up to the limits.
func lists() [][]int64 {
	out := [][]int64{nil, {}}
	last := [][]int64{nil}
	for range 5 {
		var next [][]int64
		for _, l := range last {
			for size := range int64(3) {
				next = append(next, append(slices.Clone(l), size))
			}
		}
		out = append(out, next...)
		last = next
	}
	r := rand.New(rand.NewSource(1))
	for _, n := range []int{6, 7, 8, 9, 15, 16, 17, 31, 33, 64, 100} {
		out = append(out, mixed(r, n), full(n), make([]int64, n))
	}
	return append(out,
		[]int64{api.MaxHeight},
		[]int64{api.MaxHeight, api.MaxHeight},
		[]int64{0, api.MaxHeight, 0, 0, api.MaxHeight, 0},
		[]int64{1, api.MaxHeight, api.MaxHeight - 1},
	)
}

// wrong contains lists of sizes that are not valid, and their errors.
func wrong() map[api.Errno][][]int64 {
	const h = api.MaxHeight
	return map[api.Errno][][]int64{
		api.ErrLimit:    {full(api.MaxList + 1), make([]int64, 2*api.MaxList), append([]int64{-1}, full(api.MaxList)...)},
		api.ErrHeight:   {{-1}, {h + 1}, {3, 0, math.MinInt64}, {math.MaxInt64}, {h, h, h + 1}, {h, -1, h, 1}},
		api.ErrOverflow: {{h, h, 1}, {h, 1, h}, {h, h, 1, -1}, {h, h, h, h, h}},
	}
}

// far contains numbers that are no indices of lists.
func far() []int {
	return []int{-1, -2, math.MinInt, math.MinInt + 1, math.MaxInt, math.MaxInt - 1, 1 << 32, -1 << 32, 1 << 62}
}

// inserted returns a list with more sizes put in.
func inserted(l []int64, at int, more []int64) []int64 {
	return slices.Concat(l[:at], more, l[at:])
}

// removed returns a list without n sizes from an index on.
func removed(l []int64, at, n int) []int64 {
	return slices.Concat(l[:at], l[at+n:])
}

// moved returns a list of which n sizes stand elsewhere.
func moved(l []int64, at, n, to int) []int64 {
	return inserted(removed(l, at, n), to, l[at:at+n])
}

// sumOf returns the sum of sizes.
func sumOf(l []int64) int64 {
	sum := int64(0)
	for _, size := range l {
		sum += size
	}
	return sum
}

// fewest returns F(d), the fewest sizes of a rope of the depth d.
func fewest(d int) int {
	a, b := 0, 1
	for range d {
		a, b = b, a+b+1
	}
	return a
}

// balanced fails unless the depth of a rope is one that a tree with so many
// nodes may have.
func balanced(t *testing.T, r ropes.Rope) {
	t.Helper()
	if d := r.Depth(); d < 0 || d > 16 || fewest(d) > r.Len() || r.Len() >= 1<<d {
		t.Fatalf("%d sizes in the depth %d", r.Len(), d)
	}
}

// has fails unless a rope has the given sizes.
func has(t *testing.T, r ropes.Rope, l []int64) {
	t.Helper()
	if got := r.List(); !slices.Equal(got, l) || cap(got) != len(got) {
		t.Fatalf("List: %v of the capacity %d, want %v", got, cap(got), l)
	}
	if r.Len() != len(l) || r.Total() != sumOf(l) {
		t.Fatalf("%v: Len %d, Total %d, want %d, %d", l, r.Len(), r.Total(), len(l), sumOf(l))
	}
	balanced(t, r)
}

// same fails unless all that a rope tells is what the given sizes say.
func same(t *testing.T, r ropes.Rope, l []int64) {
	t.Helper()
	has(t, r, l)
	sum := int64(0)
	for i, size := range l {
		at, e := r.At(i)
		ahead, f := r.Sum(i)
		if at != size || ahead != sum || e != api.OK || f != api.OK {
			t.Fatalf("%v: At(%d) and Sum: %d, %v, %d, %v, want %d, %d", l, i, at, e, ahead, f, size, sum)
		}
		for _, rest := range []int64{0, size / 2, size - 1} {
			if rest < 0 || rest >= size {
				continue
			}
			if k, x, e := r.Find(sum + rest); k != i || x != rest || e != api.OK {
				t.Fatalf("%v: Find(%d): %d, %d, %v, want %d, %d", l, sum+rest, k, x, e, i, rest)
			}
		}
		sum += size
	}
	if all, e := r.Sum(len(l)); all != sum || e != api.OK {
		t.Fatalf("%v: Sum of all: %d, %v, want %d", l, all, e, sum)
	}
}

// refused fails unless there is the right error, and a rope without sizes.
func refused(t *testing.T, what string, r ropes.Rope, e, want api.Errno) {
	t.Helper()
	if e != want || r.Len() != 0 || r.Total() != 0 || r.Depth() != 0 || len(r.List()) != 0 {
		t.Errorf("%s: %v with %d sizes, want %v", what, e, r.Len(), want)
	}
}

// P5.1, P5.2
func TestOf(t *testing.T) {
	for _, l := range lists() {
		same(t, rope(t, l...), l)
	}
	r := rand.New(rand.NewSource(2))
	for _, n := range []int{1023, 1024, 1025, 2047, 2049, api.MaxList - 1, api.MaxList} {
		l := mixed(r, n)
		same(t, rope(t, l...), l)
	}
}

// P5.1
func TestOfErrors(t *testing.T) {
	for want, all := range wrong() {
		for _, l := range all {
			r, e := ropes.Of(l)
			refused(t, "Of", r, e, want)
			if f := fenwicks.Check(l); e != f {
				t.Errorf("Of: %v, but Check: %v", e, f)
			}
		}
	}
}

// Chapter 05: the zero Rope is one without sizes, which can be used.
func TestZero(t *testing.T) {
	var none ropes.Rope
	for _, r := range []ropes.Rope{none, rope(t), rope(t, []int64{}...)} {
		same(t, r, nil)
		a, b, e := r.Split(0)
		if e != api.OK || a.Len() != 0 || b.Len() != 0 {
			t.Errorf("Split(0): %v, %v, %v", a.List(), b.List(), e)
		}
		for what, f := range map[string]func() (ropes.Rope, api.Errno){
			"Join":   func() (ropes.Rope, api.Errno) { return ropes.Join(r, none) },
			"Insert": func() (ropes.Rope, api.Errno) { return r.Insert(0, nil) },
			"Remove": func() (ropes.Rope, api.Errno) { return r.Remove(0, 0) },
			"Move":   func() (ropes.Rope, api.Errno) { return r.Move(0, 0, 0) },
		} {
			if x, e := f(); e != api.OK || x.Len() != 0 {
				t.Errorf("%s: %v, %v", what, x.List(), e)
			}
		}
		x, e := r.Set(0, 1)
		refused(t, "Set(0, 1)", x, e, api.ErrRange)
		x, e = r.Insert(0, []int64{4, 5})
		if e != api.OK {
			t.Fatal(e)
		}
		same(t, x, []int64{4, 5})
		same(t, r, nil)
	}
}

// P5.2: At, Sum and Find answer as those of a tree of fenwicks do, also where
// there is nothing.
func TestAsFenwicks(t *testing.T) {
	for _, l := range lists() {
		r := rope(t, l...)
		tree, e := fenwicks.New(l)
		if e != api.OK {
			t.Fatal(e)
		}
		for _, i := range append(far(), 0, 1, len(l)-1, len(l), len(l)+1, 2*len(l)) {
			a, e := r.At(i)
			if b, f := tree.At(i); a != b || e != f {
				t.Errorf("%v: At(%d): %d, %v, want %d, %v", l, i, a, e, b, f)
			}
			a, e = r.Sum(i)
			if b, f := tree.Sum(i); a != b || e != f {
				t.Errorf("%v: Sum(%d): %d, %v, want %d, %v", l, i, a, e, b, f)
			}
		}
		total := sumOf(l)
		for _, x := range []int64{-1, 0, 1, 2, total / 2, total - 1, total, total + 1, math.MinInt64, math.MaxInt64} {
			i, a, e := r.Find(x)
			if k, b, f := tree.Find(x); i != k || a != b || e != f {
				t.Errorf("%v: Find(%d): %d, %d, %v, want %d, %d, %v", l, x, i, a, e, k, b, f)
			}
		}
	}
}

// P5.3, P5.8: all parts of lists, which are joined again.
func TestSplit(t *testing.T) {
	for _, l := range lists() {
		r := rope(t, l...)
		for at := range len(l) + 1 {
			a, b, e := r.Split(at)
			if e != api.OK {
				t.Fatalf("%v: Split(%d): %v", l, at, e)
			}
			same(t, a, l[:at])
			same(t, b, l[at:])
			x, e := ropes.Join(a, b)
			if e != api.OK {
				t.Fatalf("%v, divided at %d: Join: %v", l, at, e)
			}
			same(t, x, l)
		}
		has(t, r, l)
		for _, at := range append(far(), len(l)+1, len(l)+2) {
			a, b, e := r.Split(at)
			refused(t, "Split, the first part", a, e, api.ErrRange)
			refused(t, "Split, the second part", b, e, api.ErrRange)
		}
	}
}

// P5.3, P5.7: ropes of all depths are joined, also those that came out of
// others.
func TestJoin(t *testing.T) {
	for n := range 70 {
		for m := range 70 {
			a, b := rising(n, 1), rising(m, 1000)
			x, e := ropes.Join(rope(t, a...), rope(t, b...))
			if e != api.OK {
				t.Fatal(e)
			}
			has(t, x, slices.Concat(a, b))
		}
	}
	l := rising(api.MaxList, 1)
	r := rope(t, l...)
	for _, at := range []int{0, 1, 2, 3, 5, 9, 100, 1365, 2048, 4000, 4090, 4094, 4095, 4096} {
		a, b, e := r.Split(at)
		if e != api.OK {
			t.Fatal(e)
		}
		x, e := ropes.Join(b, a)
		if e != api.OK {
			t.Fatal(e)
		}
		has(t, x, slices.Concat(l[at:], l[:at]))
	}
}

// P5.3
func TestJoinErrors(t *testing.T) {
	const h = api.MaxHeight
	most := append([]int64{h, h}, make([]int64, api.MaxList-2)...)
	for _, x := range []struct {
		a, b []int64
		e    api.Errno
	}{
		{full(api.MaxList), nil, api.OK},
		{nil, full(api.MaxList), api.OK},
		{full(api.MaxList), []int64{0}, api.ErrLimit},
		{[]int64{0}, full(api.MaxList), api.ErrLimit},
		{full(2048), full(2048), api.OK},
		{full(2048), full(2049), api.ErrLimit},
		{most, most, api.ErrLimit},
		{most, []int64{1}, api.ErrLimit}, // both errors
		{[]int64{h}, []int64{h}, api.OK},
		{[]int64{h, h}, []int64{0}, api.OK},
		{[]int64{h, h}, []int64{1}, api.ErrOverflow},
		{[]int64{1}, []int64{h, h}, api.ErrOverflow},
		{[]int64{h, h}, []int64{h, h}, api.ErrOverflow}, // the sum goes round
		{[]int64{h, 1}, []int64{h - 1}, api.OK},
		{[]int64{h, 1}, []int64{h}, api.ErrOverflow},
	} {
		a, b := rope(t, x.a...), rope(t, x.b...)
		r, e := ropes.Join(a, b)
		if x.e != api.OK {
			refused(t, "Join", r, e, x.e)
		} else if e != api.OK {
			t.Errorf("Join of %d and %d: %v", len(x.a), len(x.b), e)
		} else {
			has(t, r, slices.Concat(x.a, x.b))
		}
		has(t, a, x.a)
		has(t, b, x.b)
	}
}

// P5.4
func TestSet(t *testing.T) {
	for _, l := range lists() {
		if sumOf(l) > 1<<40 {
			continue
		}
		r := rope(t, l...)
		for i := range l {
			for _, size := range []int64{0, 1, l[i], 1000, api.MaxHeight} {
				want := slices.Clone(l)
				want[i] = size
				x, e := r.Set(i, size)
				if e != api.OK {
					t.Fatalf("%v: Set(%d, %d): %v", l, i, size, e)
				}
				same(t, x, want)
			}
		}
		same(t, r, l)
	}
}

// P5.4
func TestSetErrors(t *testing.T) {
	const h = api.MaxHeight
	for _, x := range []struct {
		l    []int64
		i    int
		size int64
		e    api.Errno
	}{
		{[]int64{3, 0, 5, 2}, -1, 1, api.ErrRange},
		{[]int64{3, 0, 5, 2}, 4, 1, api.ErrRange},
		{[]int64{3, 0, 5, 2}, math.MinInt, 1, api.ErrRange},
		{[]int64{3, 0, 5, 2}, math.MaxInt, 1, api.ErrRange},
		{[]int64{3, 0, 5, 2}, 4, -1, api.ErrRange}, // two errors
		{[]int64{h, h}, 2, 1, api.ErrRange},        // two errors
		{[]int64{3, 0, 5, 2}, 0, -1, api.ErrHeight},
		{[]int64{3, 0, 5, 2}, 3, h + 1, api.ErrHeight},
		{[]int64{3, 0, 5, 2}, 1, math.MinInt64, api.ErrHeight},
		{[]int64{3, 0, 5, 2}, 1, math.MaxInt64, api.ErrHeight},
		{[]int64{h, h, 0}, 2, h + 1, api.ErrHeight}, // two errors
		{[]int64{h, h, 0}, 2, 1, api.ErrOverflow},
		{[]int64{h, h, 0}, 2, h, api.ErrOverflow},
		{[]int64{h, h - 5, 5}, 2, 6, api.ErrOverflow},
		{[]int64{h, h - 5, 5}, 2, 5, api.OK}, // what the size was does not count
		{[]int64{h, h - 5, 5}, 1, h - 4, api.ErrOverflow},
		{[]int64{h, h}, 0, h, api.OK},
	} {
		r := rope(t, x.l...)
		got, e := r.Set(x.i, x.size)
		if x.e == api.OK {
			want := slices.Clone(x.l)
			want[x.i] = x.size
			same(t, got, want)
		} else {
			refused(t, "Set", got, e, x.e)
		}
		same(t, r, x.l)
	}
}

// P5.5, P5.6: all changes of short lists.
func TestChanges(t *testing.T) {
	for size := range 10 {
		l := rising(size, 1)
		r := rope(t, l...)
		for at := range size + 1 {
			for n := range 6 {
				more := rising(n, 100)
				x, e := r.Insert(at, more)
				if e != api.OK {
					t.Fatalf("%v: Insert(%d, %v): %v", l, at, more, e)
				}
				same(t, x, inserted(l, at, more))
			}
			for n := range size - at + 1 {
				x, e := r.Remove(at, n)
				if e != api.OK {
					t.Fatalf("%v: Remove(%d, %d): %v", l, at, n, e)
				}
				same(t, x, removed(l, at, n))
				for to := range size - n + 1 {
					x, e := r.Move(at, n, to)
					if e != api.OK {
						t.Fatalf("%v: Move(%d, %d, %d): %v", l, at, n, to, e)
					}
					same(t, x, moved(l, at, n, to))
				}
			}
		}
		same(t, r, l)
	}
}

// P5.3 to P5.8: long lists are changed one after the other; what was there
// before stays.
func TestLongChanges(t *testing.T) {
	r := rand.New(rand.NewSource(3))
	for _, n := range []int{0, 1, 50, 500, api.MaxList} {
		l := mixed(r, n)
		x := rope(t, l...)
		for range 150 {
			before, was := x, l
			x, l = changed(t, r, x, l)
			has(t, x, l)
			has(t, before, was)
		}
		same(t, x, l)
	}
}

// changed makes one change of a rope and of its list, picked at random.
func changed(t *testing.T, r *rand.Rand, x ropes.Rope, l []int64) (ropes.Rope, []int64) {
	t.Helper()
	var e api.Errno
	at := r.Intn(len(l) + 1)
	part := r.Intn(len(l) - at + 1)
	switch r.Intn(4) {
	case 0:
		more := mixed(r, r.Intn(min(api.MaxList-len(l), 200)+1))
		x, e = x.Insert(at, more)
		l = inserted(l, at, more)
	case 1:
		part /= 4
		x, e = x.Remove(at, part)
		l = removed(l, at, part)
	case 2:
		to := r.Intn(len(l) - part + 1)
		x, e = x.Move(at, part, to)
		l = moved(l, at, part, to)
	default:
		if part == 0 {
			return x, l
		}
		l = slices.Clone(l)
		l[at] = int64(r.Intn(1000))
		x, e = x.Set(at, l[at])
	}
	if e != api.OK {
		t.Fatal(e)
	}
	return x, l
}

// P5.5: the errors of an insertion, in their order.
func TestInsertErrors(t *testing.T) {
	const h = api.MaxHeight
	most := append([]int64{h, h}, make([]int64, api.MaxList-2)...)
	for _, x := range []struct {
		l    []int64
		at   int
		more []int64
		e    api.Errno
	}{
		{[]int64{3, 0}, -1, nil, api.ErrRange},
		{[]int64{3, 0}, 3, nil, api.ErrRange},
		{[]int64{3, 0}, math.MaxInt, []int64{1}, api.ErrRange},
		{[]int64{3, 0}, 3, []int64{-1}, api.ErrRange},       // ahead of ErrHeight
		{most, -1, full(api.MaxList + 1), api.ErrRange},     // ahead of ErrLimit
		{most, 0, []int64{-1}, api.ErrHeight},               // ahead of ErrLimit of Join
		{most, 0, []int64{h, h, 1}, api.ErrOverflow},        // ahead of ErrLimit of Join
		{nil, 0, full(api.MaxList + 1), api.ErrLimit},       // of Check
		{[]int64{h, h}, 1, []int64{h + 1}, api.ErrHeight},   // ahead of ErrOverflow
		{most, 5, []int64{1}, api.ErrLimit},                 // ahead of ErrOverflow
		{[]int64{0}, 1, full(api.MaxList), api.ErrLimit},    // of Join
		{[]int64{h, h}, 1, []int64{0, 1}, api.ErrOverflow},  // of Join
		{[]int64{h, h}, 2, []int64{h, h}, api.ErrOverflow},  // the sum goes round
		{[]int64{h, 1}, 0, []int64{h - 1, 0, 0}, api.OK},    // the greatest total
		{full(4000), 17, full(96), api.OK},                  // the longest list
		{full(api.MaxList), api.MaxList, []int64{}, api.OK}, // nothing
	} {
		r := rope(t, x.l...)
		got, e := r.Insert(x.at, x.more)
		if x.e != api.OK {
			refused(t, "Insert", got, e, x.e)
		} else if e != api.OK {
			t.Errorf("%d sizes: Insert(%d) of %d: %v", len(x.l), x.at, len(x.more), e)
		} else {
			has(t, got, inserted(x.l, x.at, x.more))
		}
		has(t, r, x.l)
	}
}

// P5.6
func TestRemoveAndMoveErrors(t *testing.T) {
	for _, size := range []int{0, 1, 4, 100, api.MaxList} {
		l := rising(size, 1)
		r := rope(t, l...)
		for _, x := range append(far(), size+1, size+2) {
			for _, c := range [][3]int{{x, 0, 0}, {x, 1, 0}, {x, x, 0}, {0, x, 0}, {size, x, 0}, {size / 2, x, 0}} {
				got, e := r.Remove(c[0], c[1])
				refused(t, "Remove", got, e, api.ErrRange)
				got, e = r.Move(c[0], c[1], c[2])
				refused(t, "Move", got, e, api.ErrRange)
			}
			for _, c := range [][3]int{{0, 0, x}, {0, size, x}, {size, 0, x}} {
				got, e := r.Move(c[0], c[1], c[2])
				refused(t, "Move to", got, e, api.ErrRange)
			}
		}
		got, e := r.Remove(size, 1)
		refused(t, "Remove behind all", got, e, api.ErrRange)
		got, e = r.Move(0, size, 1)
		refused(t, "Move of all behind", got, e, api.ErrRange)
		if size > 1 {
			got, e = r.Move(0, 2, size-1)
			refused(t, "Move of two behind", got, e, api.ErrRange)
		}
		has(t, r, l)
	}
}

// P5.7: F, as the chapter defines it, leaves no greater depth than 16.
func TestFewest(t *testing.T) {
	want := []int{0, 1, 2, 4, 7, 12, 20, 33}
	for d, n := range want {
		if fewest(d) != n {
			t.Errorf("F(%d) is %d, want %d", d, fewest(d), n)
		}
	}
	if fewest(16) > api.MaxList || fewest(17) <= api.MaxList {
		t.Errorf("F(16) is %d, F(17) is %d", fewest(16), fewest(17))
	}
}

// P5.7: ropes that grow and shrink always at the same place.
func TestDepthOfOneSided(t *testing.T) {
	for _, place := range []func(n int) int{
		func(n int) int { return 0 },
		func(n int) int { return n },
		func(n int) int { return n / 2 },
		func(n int) int { return n / 3 },
		func(n int) int { return n * 7 % (n + 1) },
	} {
		var r ropes.Rope
		var e api.Errno
		for n := range api.MaxList {
			if r, e = r.Insert(place(n), []int64{1}); e != api.OK {
				t.Fatal(e)
			}
			balanced(t, r)
		}
		for n := api.MaxList - 1; n >= 0; n-- {
			if r, e = r.Remove(place(n), 1); e != api.OK {
				t.Fatal(e)
			}
			balanced(t, r)
		}
		same(t, r, nil)
	}
}

// P5.7, P5.8: what is put together changes a few nodes, and shares the others.
// The bound leaves a dozen for each of the 16 levels: it is far below the 4096
// nodes of a rope that is made again.
func TestFewSteps(t *testing.T) {
	r := rope(t, full(api.MaxList)...)
	a, b, _ := r.Split(1000)
	for what, f := range map[string]func(){
		"Split":  func() { r.Split(1234) },
		"Join":   func() { ropes.Join(b, a) },
		"Set":    func() { r.Set(2345, 7) },
		"Insert": func() { a.Insert(500, []int64{1, 2, 3}) },
		"Remove": func() { r.Remove(100, 3000) },
		"Move":   func() { r.Move(100, 2000, 1500) },
	} {
		if n := testing.AllocsPerRun(5, f); n > 12*16 {
			t.Errorf("%s makes %v objects", what, n)
		}
	}
}

// P5.8: Sum and Find of two ropes that are joined.
func TestSumAndFindOfJoined(t *testing.T) {
	all := lists()
	for i, l := range all {
		m := all[(i*31+7)%len(all)]
		if sumOf(l) > 1<<40 || sumOf(m) > 1<<40 {
			continue
		}
		a, b := rope(t, l...), rope(t, m...)
		x, e := ropes.Join(a, b)
		if e != api.OK {
			t.Fatal(e)
		}
		for i := range len(l) + len(m) + 1 {
			want, _ := a.Sum(min(i, len(l)))
			behind, _ := b.Sum(max(0, i-len(l)))
			if got, e := x.Sum(i); got != want+behind || e != api.OK {
				t.Fatalf("%v and %v: Sum(%d): %d, %v", l, m, i, got, e)
			}
		}
		for at := range a.Total() {
			i, rest, _ := a.Find(at)
			if k, y, e := x.Find(at); k != i || y != rest || e != api.OK {
				t.Fatalf("%v and %v: Find(%d): %d, %d, %v", l, m, at, k, y, e)
			}
		}
		for at := range b.Total() {
			i, rest, _ := b.Find(at)
			if k, y, e := x.Find(a.Total() + at); k != len(l)+i || y != rest || e != api.OK {
				t.Fatalf("%v and %v: Find(%d): %d, %d, %v", l, m, a.Total()+at, k, y, e)
			}
		}
	}
}

// R4, P5.8: a rope keeps no argument, and gives out nothing that it keeps.
func TestMemory(t *testing.T) {
	l, more := []int64{3, 0, 5, 2}, []int64{7, 8}
	r := rope(t, l...)
	x, e := r.Insert(1, more)
	if e != api.OK {
		t.Fatal(e)
	}
	clear(l)
	clear(more)
	clear(r.List())
	clear(x.List())
	same(t, r, []int64{3, 0, 5, 2})
	same(t, x, []int64{3, 7, 8, 0, 5, 2})
	l = []int64{1, 2, 3}
	rope(t, l...).Set(0, 9)
	if !slices.Equal(l, []int64{1, 2, 3}) {
		t.Errorf("the argument became %v", l)
	}
}

// P5.1 to P5.7: the examples of chapter 05.
func TestExamples(t *testing.T) {
	r := rope(t, 3, 0, 5, 2)
	sum, e := r.Sum(3)
	i, rest, f := r.Find(3)
	if r.Len() != 4 || r.Total() != 10 || r.Depth() != 3 || sum != 8 || e != api.OK || i != 2 || rest != 0 || f != api.OK {
		t.Errorf("Len %d, Total %d, Depth %d, Sum(3) %d, %v, Find(3) %d, %d, %v", r.Len(), r.Total(), r.Depth(), sum, e, i, rest, f)
	}
	a, b, e := r.Split(1)
	if e != api.OK {
		t.Fatal(e)
	}
	same(t, a, []int64{3})
	same(t, b, []int64{0, 5, 2})
	for _, x := range []struct {
		f    func() (ropes.Rope, api.Errno)
		want []int64
	}{
		{func() (ropes.Rope, api.Errno) { return ropes.Join(b, a) }, []int64{0, 5, 2, 3}},
		{func() (ropes.Rope, api.Errno) { return r.Insert(1, []int64{7}) }, []int64{3, 7, 0, 5, 2}},
		{func() (ropes.Rope, api.Errno) { return r.Remove(1, 2) }, []int64{3, 2}},
		{func() (ropes.Rope, api.Errno) { return r.Move(0, 2, 2) }, []int64{5, 2, 3, 0}},
	} {
		got, e := x.f()
		if e != api.OK {
			t.Fatal(e)
		}
		same(t, got, x.want)
	}
	a, b, e = r.Split(5)
	refused(t, "Split(5), the first part", a, e, api.ErrRange)
	refused(t, "Split(5), the second part", b, e, api.ErrRange)
	got, e := r.Set(4, 1)
	refused(t, "Set(4, 1)", got, e, api.ErrRange)
	got, e = r.Insert(0, []int64{-1})
	refused(t, "Insert(0, -1)", got, e, api.ErrHeight)
}
