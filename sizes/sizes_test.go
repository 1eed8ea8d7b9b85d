package sizes_test

import (
	"math"
	"math/rand"
	"slices"
	"testing"

	"paternoster/api"
	"paternoster/sizes"
)

// row is a row as the tests keep it.
type row struct {
	size  int64
	known bool
}

// index returns the index with some rows, which are put in one by one.
func index(t *testing.T, rows ...row) sizes.Index {
	t.Helper()
	x := sizes.New()
	for i, r := range rows {
		var e api.Errno
		if x, e = x.Insert(i, []int64{r.size}, r.known); e != api.OK {
			t.Fatalf("Insert(%d, %d): %v", i, r.size, e)
		}
	}
	return x
}

// rowsOf returns the rows with some sizes, all of them known, or all not.
func rowsOf(l []int64, known bool) []row {
	out := make([]row, len(l))
	for i, size := range l {
		out[i] = row{size, known}
	}
	return out
}

// sizesOf returns the sizes of rows.
func sizesOf(rows []row) []int64 {
	out := make([]int64, len(rows))
	for i, r := range rows {
		out[i] = r.size
	}
	return out
}

// full returns n sizes of 1.
func full(n int) []int64 { return slices.Repeat([]int64{1}, n) }

// random returns n rows of some sizes. They are known in stretches, which are
// the longer the greater a number is.
func random(r *rand.Rand, n, stretch int) []row {
	out := make([]row, n)
	known := false
	for i := range out {
		if r.Intn(stretch) == 0 {
			known = !known
		}
		out[i] = row{1 + int64(r.Intn(50)), known}
	}
	return out
}

// short contains all lists of up to five rows, of which some are known.
func short() [][]row {
	var out [][]row
	for n := range 6 {
		for bits := range 1 << n {
			rows := make([]row, n)
			for i := range rows {
				rows[i] = row{int64(i%3 + 1 + n), bits>>i&1 == 1}
			}
			out = append(out, rows)
		}
	}
	return out
}

// far contains numbers that are no indices of rows.
func far() []int {
	return []int{-1, -2, math.MinInt, math.MinInt + 1, math.MaxInt, math.MaxInt - 1, 1 << 32, -1 << 32, 1 << 30, 1 << 62}
}

// inserted returns rows with more of them put in.
func inserted(rows []row, at int, more []row) []row {
	return slices.Concat(rows[:at], more, rows[at:])
}

// removed returns rows without n of them from an index on.
func removed(rows []row, at, n int) []row {
	return slices.Concat(rows[:at], rows[at+n:])
}

// moved returns rows of which n stand elsewhere.
func moved(rows []row, at, n, to int) []row {
	return inserted(removed(rows, at, n), to, rows[at:at+n])
}

// changed returns rows of which one is another one.
func changed(rows []row, i int, r row) []row {
	out := slices.Clone(rows)
	out[i] = r
	return out
}

// unknown returns what Unknown has to return for a range that is there.
func unknown(rows []row, from, to int) (int, api.Errno) {
	for i := from; i < to; i++ {
		if !rows[i].known {
			return i, api.OK
		}
	}
	return 0, api.ErrNone
}

// has fails unless an index has the given rows.
func has(t *testing.T, x sizes.Index, rows []row) {
	t.Helper()
	top := int64(0)
	for i, r := range rows {
		a, e := x.Top(i)
		b, f := x.Size(i)
		c, g := x.Known(i)
		if a != top || b != r.size || c != r.known || e != api.OK || f != api.OK || g != api.OK {
			t.Fatalf("%v: the row %d: Top %d, %v, Size %d, %v, Known %v, %v", rows, i, a, e, b, f, c, g)
		}
		for _, rest := range []int64{0, r.size / 2, r.size - 1} {
			if k, y, e := x.At(top + rest); k != i || y != rest || e != api.OK {
				t.Fatalf("%v: At(%d): %d, %d, %v, want %d, %d", rows, top+rest, k, y, e, i, rest)
			}
		}
		top += r.size
	}
	end, e := x.Top(len(rows))
	if x.Len() != len(rows) || x.Total() != top || end != top || e != api.OK {
		t.Fatalf("%v: Len %d, Total %d, Top of Len %d, %v", rows, x.Len(), x.Total(), end, e)
	}
}

// same fails unless all that an index tells is what the given rows say.
func same(t *testing.T, x sizes.Index, rows []row) {
	t.Helper()
	has(t, x, rows)
	for from := range len(rows) + 1 {
		for to := from; to <= len(rows); to++ {
			want, f := unknown(rows, from, to)
			if i, e := x.Unknown(from, to); i != want || e != f {
				t.Fatalf("%v: Unknown(%d, %d): %d, %v, want %d, %v", rows, from, to, i, e, want, f)
			}
		}
	}
}

// refused fails unless there is the right error, and an index without rows,
// which is as usable as any.
func refused(t *testing.T, what string, x sizes.Index, e, want api.Errno) {
	t.Helper()
	if e != want || x.Len() != 0 || x.Total() != 0 {
		t.Errorf("%s: %v with %d rows, want %v", what, e, x.Len(), want)
	}
	y, e := x.Insert(0, []int64{1, 1}, false)
	if i, f := y.Unknown(0, 2); e != api.OK || i != 0 || f != api.OK {
		t.Errorf("%s: rows are known in what comes with an error", what)
	}
}

// P6.1: New returns the index without rows, which is the zero Index.
func TestNew(t *testing.T) {
	var zero sizes.Index
	for _, x := range []sizes.Index{sizes.New(), zero} {
		same(t, x, nil)
		for what, f := range map[string]func() (sizes.Index, api.Errno){
			"Insert": func() (sizes.Index, api.Errno) { return x.Insert(0, nil, true) },
			"Remove": func() (sizes.Index, api.Errno) { return x.Remove(0, 0) },
			"Move":   func() (sizes.Index, api.Errno) { return x.Move(0, 0, 0) },
		} {
			y, e := f()
			if e != api.OK {
				t.Errorf("%s: %v", what, e)
			}
			same(t, y, nil)
		}
		y, e := x.Set(0, 1, true)
		refused(t, "Set(0, 1, true)", y, e, api.ErrRange)
		y, e = x.Insert(0, []int64{4, 5}, true)
		if e != api.OK {
			t.Fatal(e)
		}
		same(t, y, rowsOf([]int64{4, 5}, true))
		same(t, x, nil)
	}
}

// P6.1 to P6.4
func TestShort(t *testing.T) {
	for _, rows := range short() {
		same(t, index(t, rows...), rows)
	}
}

// P6.3, P6.8: each offset is in exactly one row, and tops rise strictly.
func TestOffsets(t *testing.T) {
	for _, rows := range short() {
		x := index(t, rows...)
		offset := int64(0)
		for i, r := range rows {
			a, _ := x.Top(i)
			b, _ := x.Top(i + 1)
			if a >= b {
				t.Errorf("%v: the top %d is ahead of the top %d", rows, a, b)
			}
			for rest := range r.size {
				if k, y, e := x.At(offset); k != i || y != rest || e != api.OK {
					t.Errorf("%v: At(%d): %d, %d, %v, want %d, %d", rows, offset, k, y, e, i, rest)
				}
				offset++
			}
		}
	}
}

// P6.2 to P6.4: what is asked for outside.
func TestRangeErrors(t *testing.T) {
	for _, n := range []int{0, 1, 5, 100, api.MaxItems} {
		x := index(t, rowsOf(full(n), true)...)
		for _, i := range append(far(), n, n+1, n+2) {
			if size, e := x.Size(i); size != 0 || e != api.ErrRange {
				t.Errorf("%d rows: Size(%d): %d, %v", n, i, size, e)
			}
			if known, e := x.Known(i); known || e != api.ErrRange {
				t.Errorf("%d rows: Known(%d): %v, %v", n, i, known, e)
			}
			if top, e := x.Top(i); i != n && (top != 0 || e != api.ErrRange) {
				t.Errorf("%d rows: Top(%d): %d, %v", n, i, top, e)
			}
			for _, c := range [][2]int{{i, i}, {i, 0}, {i, n}, {0, i}, {n, i}} {
				if 0 <= c[0] && c[0] <= c[1] && c[1] <= n {
					continue
				}
				if k, e := x.Unknown(c[0], c[1]); k != 0 || e != api.ErrRange {
					t.Errorf("%d rows: Unknown(%d, %d): %d, %v", n, c[0], c[1], k, e)
				}
			}
		}
		for _, offset := range []int64{-1, math.MinInt64, int64(n), int64(n) + 1, math.MaxInt64} {
			if i, rest, e := x.At(offset); i != 0 || rest != 0 || e != api.ErrRange {
				t.Errorf("%d rows: At(%d): %d, %d, %v", n, offset, i, rest, e)
			}
		}
	}
}

// P6.4: a range that is the wrong way round is ErrRange, also where all rows
// are known; an empty one has no row.
func TestUnknownErrors(t *testing.T) {
	x := index(t, row{3, true}, row{4, false}, row{5, true}, row{6, true})
	for _, c := range []struct {
		from, to int
		e        api.Errno
	}{
		{1, 0, api.ErrRange}, {2, 1, api.ErrRange}, {4, 3, api.ErrRange}, {4, 0, api.ErrRange},
		{3, 5, api.ErrRange}, {5, 5, api.ErrRange}, {-1, 2, api.ErrRange}, {-1, -1, api.ErrRange},
		{0, 0, api.ErrNone}, {1, 1, api.ErrNone}, {4, 4, api.ErrNone}, {0, 1, api.ErrNone},
		{2, 3, api.ErrNone}, {2, 4, api.ErrNone}, {3, 4, api.ErrNone},
	} {
		if i, e := x.Unknown(c.from, c.to); i != 0 || e != c.e {
			t.Errorf("Unknown(%d, %d): %d, %v, want %v", c.from, c.to, i, e, c.e)
		}
	}
}

// P6.5, P6.8
func TestSet(t *testing.T) {
	for _, rows := range short() {
		x := index(t, rows...)
		for i, r := range rows {
			for _, size := range []int64{1, 2, r.size, 1000, api.MaxHeight} {
				for _, known := range []bool{false, true} {
					y, e := x.Set(i, size, known)
					if e != api.OK {
						t.Fatalf("%v: Set(%d, %d, %v): %v", rows, i, size, known, e)
					}
					same(t, y, changed(rows, i, row{size, known}))
				}
			}
		}
		same(t, x, rows)
	}
}

// P6.5
func TestSetErrors(t *testing.T) {
	const h = api.MaxHeight
	for _, c := range []struct {
		l    []int64
		i    int
		size int64
		e    api.Errno
	}{
		{nil, 0, 1, api.ErrRange},
		{[]int64{3, 4}, -1, 1, api.ErrRange},
		{[]int64{3, 4}, 2, 1, api.ErrRange},
		{[]int64{3, 4}, math.MinInt, 1, api.ErrRange},
		{[]int64{3, 4}, math.MaxInt, 1, api.ErrRange},
		{[]int64{3, 4}, 2, 0, api.ErrRange},   // ahead of ErrHeight
		{[]int64{3, 4}, -1, -1, api.ErrRange}, // ahead of ErrHeight
		{[]int64{h, h}, 2, 1, api.ErrRange},   // ahead of ErrOverflow
		{[]int64{3, 4}, 0, 0, api.ErrHeight},
		{[]int64{3, 4}, 1, 0, api.ErrHeight},
		{[]int64{3, 4}, 1, -1, api.ErrHeight},
		{[]int64{3, 4}, 1, h + 1, api.ErrHeight},
		{[]int64{3, 4}, 1, math.MinInt64, api.ErrHeight},
		{[]int64{3, 4}, 1, math.MaxInt64, api.ErrHeight},
		{[]int64{h, h - 1, 1}, 2, h + 1, api.ErrHeight}, // ahead of ErrOverflow
		{[]int64{h, h - 1, 1}, 2, 2, api.ErrOverflow},
		{[]int64{h, h - 1, 1}, 2, h, api.ErrOverflow},
		{[]int64{h, h - 1, 1}, 1, h, api.ErrOverflow},
		{[]int64{h, h - 1, 1}, 2, 1, api.OK}, // what the size was does not count
		{[]int64{h, h - 1, 1}, 0, 1, api.OK},
		{[]int64{h, h - 5, 4}, 2, 5, api.OK}, // the greatest total
		{[]int64{h, h - 5, 4}, 2, 6, api.ErrOverflow},
		{[]int64{1}, 0, h, api.OK},
	} {
		for _, known := range []bool{false, true} {
			rows := rowsOf(c.l, !known)
			x := index(t, rows...)
			y, e := x.Set(c.i, c.size, known)
			if c.e == api.OK && e == api.OK {
				same(t, y, changed(rows, c.i, row{c.size, known}))
			} else {
				refused(t, "Set", y, e, c.e)
			}
			same(t, x, rows)
		}
	}
}

// P6.6 to P6.8: all changes of short lists.
func TestChanges(t *testing.T) {
	for _, rows := range short() {
		x := index(t, rows...)
		size := len(rows)
		for at := range size + 1 {
			for n := range 4 {
				for _, known := range []bool{false, true} {
					more := []int64{9, 1, 7}[:n]
					y, e := x.Insert(at, more, known)
					if e != api.OK {
						t.Fatalf("%v: Insert(%d, %v, %v): %v", rows, at, more, known, e)
					}
					same(t, y, inserted(rows, at, rowsOf(more, known)))
				}
			}
			for n := range size - at + 1 {
				y, e := x.Remove(at, n)
				if e != api.OK {
					t.Fatalf("%v: Remove(%d, %d): %v", rows, at, n, e)
				}
				same(t, y, removed(rows, at, n))
				for to := range size - n + 1 {
					y, e := x.Move(at, n, to)
					if e != api.OK {
						t.Fatalf("%v: Move(%d, %d, %d): %v", rows, at, n, to, e)
					}
					same(t, y, moved(rows, at, n, to))
				}
			}
		}
		same(t, x, rows)
	}
}

// P6.6: the errors of an insertion, in their order.
func TestInsertErrors(t *testing.T) {
	const h = api.MaxHeight
	most := append([]int64{h, h - api.MaxItems + 2}, full(api.MaxItems-2)...)
	for _, c := range []struct {
		l    []int64
		at   int
		more []int64
		e    api.Errno
	}{
		{nil, 1, nil, api.ErrRange},
		{[]int64{3, 4}, -1, nil, api.ErrRange},
		{[]int64{3, 4}, 3, nil, api.ErrRange},
		{[]int64{3, 4}, math.MinInt, []int64{1}, api.ErrRange},
		{[]int64{3, 4}, math.MaxInt, []int64{1}, api.ErrRange},
		{[]int64{3, 4}, 3, []int64{0}, api.ErrRange},       // ahead of ErrHeight
		{most, -1, full(api.MaxItems + 1), api.ErrRange},   // ahead of ErrLimit
		{most, api.MaxItems + 1, []int64{1}, api.ErrRange}, // ahead of ErrLimit
		{nil, 0, full(api.MaxItems + 1), api.ErrLimit},
		{nil, 0, full(api.MaxList + 1), api.ErrLimit},
		{[]int64{1}, 1, full(api.MaxItems), api.ErrLimit},
		{full(api.MaxItems), 3, []int64{1}, api.ErrLimit},
		{full(api.MaxItems), 3, []int64{0}, api.ErrLimit}, // ahead of ErrHeight
		{full(1000), 3, make([]int64, 25), api.ErrLimit},  // ahead of ErrHeight
		{most, 5, []int64{1}, api.ErrLimit},               // ahead of ErrOverflow
		{nil, 0, []int64{0}, api.ErrHeight},
		{nil, 0, []int64{-1}, api.ErrHeight},
		{nil, 0, []int64{h + 1}, api.ErrHeight},
		{nil, 0, []int64{1, 2, 0, 3}, api.ErrHeight},
		{nil, 0, []int64{1, 2, math.MinInt64}, api.ErrHeight},
		{nil, 0, []int64{1, 2, math.MaxInt64}, api.ErrHeight},
		{nil, 0, []int64{h, h, 0}, api.ErrHeight},     // it adds nothing
		{nil, 0, []int64{h, h, h + 1}, api.ErrHeight}, // ahead of ErrOverflow
		{nil, 0, []int64{h, 0, h, 1}, api.ErrHeight},  // the first size
		{nil, 0, []int64{h, h, 1}, api.ErrOverflow},
		{nil, 0, []int64{h, h, 1, 0}, api.ErrOverflow},        // the first size
		{nil, 0, []int64{h, h, 1, -1}, api.ErrOverflow},       // the first size
		{nil, 0, []int64{h, h, 1, h + 1, 0}, api.ErrOverflow}, // the first size
		{nil, 0, []int64{h, h, h, h, h}, api.ErrOverflow},     // the sum goes round
		{[]int64{h, h}, 1, []int64{0}, api.ErrHeight},         // ahead of ErrOverflow
		{[]int64{h, h}, 1, []int64{1, 1, 0}, api.ErrHeight},   // ahead of that of the total
		{[]int64{h, h}, 1, []int64{h + 1}, api.ErrHeight},     // ahead of ErrOverflow
		{[]int64{h, h}, 1, []int64{1}, api.ErrOverflow},
		{[]int64{h, h}, 2, []int64{h, h}, api.ErrOverflow}, // the sum goes round
		{[]int64{h, 1}, 1, []int64{h}, api.ErrOverflow},
		{[]int64{h, 1}, 1, []int64{h - 1}, api.OK},            // the greatest total
		{[]int64{h, h}, 1, nil, api.OK},                       // nothing
		{full(1000), 17, full(24), api.OK},                    // the longest list
		{full(api.MaxItems), api.MaxItems, []int64{}, api.OK}, // nothing
		{nil, 0, most, api.OK},
	} {
		for _, known := range []bool{false, true} {
			rows := rowsOf(c.l, !known)
			x := index(t, rows...)
			y, e := x.Insert(c.at, c.more, known)
			if c.e == api.OK && e == api.OK {
				has(t, y, inserted(rows, c.at, rowsOf(c.more, known)))
			} else {
				refused(t, "Insert", y, e, c.e)
			}
			has(t, x, rows)
		}
	}
}

// P6.7
func TestRemoveAndMoveErrors(t *testing.T) {
	for _, n := range []int{0, 1, 4, 100, api.MaxItems} {
		rows := random(rand.New(rand.NewSource(1)), n, 3)
		x := index(t, rows...)
		for _, k := range append(far(), n+1, n+2) {
			for _, c := range [][3]int{{k, 0, 0}, {k, 1, 0}, {k, k, 0}, {0, k, 0}, {n, k, 0}, {n / 2, k, 0}} {
				y, e := x.Remove(c[0], c[1])
				refused(t, "Remove", y, e, api.ErrRange)
				y, e = x.Move(c[0], c[1], c[2])
				refused(t, "Move", y, e, api.ErrRange)
			}
			for _, c := range [][3]int{{0, 0, k}, {0, n, k}, {n, 0, k}} {
				y, e := x.Move(c[0], c[1], c[2])
				refused(t, "Move to", y, e, api.ErrRange)
			}
		}
		y, e := x.Remove(n, 1)
		refused(t, "Remove behind all", y, e, api.ErrRange)
		y, e = x.Move(0, n, 1)
		refused(t, "Move of all behind", y, e, api.ErrRange)
		if n > 1 {
			y, e = x.Move(0, 2, n-1)
			refused(t, "Move of two behind", y, e, api.ErrRange)
		}
		has(t, x, rows)
	}
}

// P6.5 to P6.8: long lists are changed one after the other; what was there
// before stays.
func TestLongChanges(t *testing.T) {
	r := rand.New(rand.NewSource(2))
	for _, stretch := range []int{1, 2, 20} {
		for _, n := range []int{0, 1, 50, api.MaxItems} {
			rows := random(r, n, stretch)
			x := index(t, rows...)
			for range 150 {
				before, was := x, rows
				x, rows = change(t, r, x, rows)
				has(t, x, rows)
				has(t, before, was)
			}
			same(t, x, rows)
		}
	}
}

// change makes one change of an index and of its rows, picked at random.
func change(t *testing.T, r *rand.Rand, x sizes.Index, rows []row) (sizes.Index, []row) {
	t.Helper()
	var e api.Errno
	at := r.Intn(len(rows) + 1)
	n := r.Intn(len(rows) - at + 1)
	known := r.Intn(2) == 0
	switch r.Intn(4) {
	case 0:
		more := sizesOf(random(r, r.Intn(min(api.MaxItems-len(rows), 99)+1), 1))
		x, e = x.Insert(at, more, known)
		rows = inserted(rows, at, rowsOf(more, known))
	case 1:
		n /= 4
		x, e = x.Remove(at, n)
		rows = removed(rows, at, n)
	case 2:
		to := r.Intn(len(rows) - n + 1)
		x, e = x.Move(at, n, to)
		rows = moved(rows, at, n, to)
	default:
		if n == 0 {
			return x, rows
		}
		size := 1 + int64(r.Intn(1000))
		x, e = x.Set(at, size, known)
		rows = changed(rows, at, row{size, known})
	}
	if e != api.OK {
		t.Fatal(e)
	}
	return x, rows
}

// P6.1 to P6.7, at the limits: the longest list, in which every second row is
// known, so that no more spans are possible, and the greatest total.
func TestLimits(t *testing.T) {
	rows := make([]row, api.MaxItems)
	for i := range rows {
		rows[i] = row{api.MaxTotal / api.MaxItems, i%2 == 0}
	}
	x := index(t, rows...)
	same(t, x, rows)
	if x.Total() != api.MaxTotal {
		t.Fatalf("Total: %d, want %d", x.Total(), api.MaxTotal)
	}
	y, e := x.Set(7, rows[7].size+1, true)
	refused(t, "Set", y, e, api.ErrOverflow)
	for _, c := range [][3]int{{0, 1, 1023}, {1023, 1, 0}, {1, 1022, 0}, {300, 501, 23}, {0, 512, 512}, {0, 1024, 0}, {1024, 0, 1024}} {
		y, e := x.Move(c[0], c[1], c[2])
		if e != api.OK {
			t.Fatal(e)
		}
		same(t, y, moved(rows, c[0], c[1], c[2]))
		y, e = x.Remove(c[0], c[1])
		if e != api.OK {
			t.Fatal(e)
		}
		same(t, y, removed(rows, c[0], c[1]))
	}
	same(t, x, rows)
}

// Chapter 06: tops and rows at offsets are found in logarithmic time: however
// an index has come about, the tree of its sizes is not deep, and a change of
// one size leaves most of it where it was.
func TestFewSteps(t *testing.T) {
	for _, place := range []func(n int) int{
		func(n int) int { return 0 },
		func(n int) int { return n },
		func(n int) int { return n * 7 % (n + 1) },
	} {
		x := sizes.New()
		for n := range api.MaxItems {
			var e api.Errno
			if x, e = x.Insert(place(n), []int64{1}, true); e != api.OK {
				t.Fatal(e)
			}
		}
		// A tree of the depth 15 has at least 1596 sizes.
		if x.Depth() > 14 {
			t.Errorf("the depth is %d", x.Depth())
		}
		if n := testing.AllocsPerRun(5, func() { x.Set(345, 7, false) }); n > 3*14 {
			t.Errorf("Set makes %v objects", n)
		}
	}
}

// R4, P6.8: an index keeps no argument, and changes none.
func TestMemory(t *testing.T) {
	l := []int64{3, 4, 5}
	x, e := sizes.New().Insert(0, l, true)
	if e != api.OK || !slices.Equal(l, []int64{3, 4, 5}) {
		t.Fatalf("%v, the argument is %v", e, l)
	}
	clear(l)
	rows := []row{{3, true}, {4, true}, {5, true}}
	same(t, x, rows)
	y, e := x.Set(1, 9, false)
	z, f := y.Set(1, 4, true)
	if e != api.OK || f != api.OK {
		t.Fatal(e, f)
	}
	same(t, y, changed(rows, 1, row{9, false}))
	same(t, z, rows)
	same(t, x, rows)
}

// P6.1 to P6.7: the examples of chapter 06.
func TestExamples(t *testing.T) {
	rows := []row{{3, true}, {4, false}, {5, false}}
	x := index(t, rows...)
	same(t, x, rows)
	a, e := x.Top(2)
	b, f := x.Top(3)
	if x.Len() != 3 || x.Total() != 12 || a != 7 || e != api.OK || b != 12 || f != api.OK {
		t.Errorf("Len %d, Total %d, Top(2) %d, %v, Top(3) %d, %v", x.Len(), x.Total(), a, e, b, f)
	}
	for _, c := range []struct {
		offset int64
		i      int
		rest   int64
		e      api.Errno
	}{{3, 1, 0, api.OK}, {11, 2, 4, api.OK}, {12, 0, 0, api.ErrRange}} {
		if i, rest, e := x.At(c.offset); i != c.i || rest != c.rest || e != c.e {
			t.Errorf("At(%d): %d, %d, %v", c.offset, i, rest, e)
		}
	}
	for _, c := range []struct {
		from, to, i int
		e           api.Errno
	}{{0, 3, 1, api.OK}, {0, 1, 0, api.ErrNone}, {2, 1, 0, api.ErrRange}} {
		if i, e := x.Unknown(c.from, c.to); i != c.i || e != c.e {
			t.Errorf("Unknown(%d, %d): %d, %v", c.from, c.to, i, e)
		}
	}
	y, e := x.Move(0, 1, 2)
	if e != api.OK {
		t.Fatal(e)
	}
	same(t, y, []row{{4, false}, {5, false}, {3, true}})
	y, e = x.Set(1, 9, true)
	if i, f := y.Unknown(0, 3); e != api.OK || y.Total() != 17 || i != 2 || f != api.OK {
		t.Errorf("Set(1, 9, true): %v, Total %d, Unknown(0, 3) %d, %v", e, y.Total(), i, f)
	}
	y, e = x.Insert(0, []int64{0}, false)
	refused(t, "Insert(0, 0, false)", y, e, api.ErrHeight)
	y, e = x.Set(0, 1<<61+1, true)
	refused(t, "Set(0, 2^61 + 1, true)", y, e, api.ErrHeight)
}
