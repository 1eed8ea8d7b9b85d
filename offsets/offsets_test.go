package offsets_test

import (
	"math"
	"math/big"
	"math/rand"
	"slices"
	"testing"

	"paternoster/api"
	"paternoster/offsets"
)

const (
	least   = int64(math.MinInt64)
	most    = int64(math.MaxInt64)
	exact   = int64(offsets.MaxExact)
	maxList = api.MaxList
)

// edges are the numbers beside which something changes, with their neighbours.
func edges() []int64 {
	out := []int64{least, least + 1, most - 1, most}
	for _, x := range []int64{0, 30, api.MaxView, exact, api.MaxHeight, api.MaxTotal, api.MaxTotal + api.MaxView} {
		for _, by := range []int64{-1, 0, 1} {
			out = append(out, x+by, -x+by)
		}
	}
	slices.Sort(out)
	return slices.Compact(out)
}

// count returns the numbers from one to another one.
func count(first, last int64) []int64 {
	var out []int64
	for x := first; x <= last; x++ {
		out = append(out, x)
	}
	return out
}

// fill returns n times the same size.
func fill(n int, size int64) []int64 {
	out := make([]int64, n)
	for i := range out {
		out[i] = size
	}
	return out
}

// lists calls do with all lists of n of some elements.
func lists[T any](n int, of []T, do func(l []T)) {
	l := make([]T, n)
	var set func(i int)
	set = func(i int) {
		if i == n {
			do(slices.Clone(l))
			return
		}
		for _, x := range of {
			l[i] = x
			set(i + 1)
		}
	}
	set(0)
}

// whole is a number of any size.
func whole(x int64) *big.Int { return big.NewInt(x) }

// sum is the sum of two numbers, which never goes round.
func sum(a, b int64) *big.Int { return new(big.Int).Add(whole(a), whole(b)) }

// plainInto is a number that is brought into a range.
func plainInto(x *big.Int, from, to int64) int64 {
	switch {
	case x.Cmp(whole(from)) < 0:
		return from
	case x.Cmp(whole(to)) > 0:
		return to
	}
	return x.Int64()
}

// number looks at a call that returns a number.
func number(t *testing.T, what string, args []int64, x int64, e api.Errno, want int64, wanted api.Errno) {
	t.Helper()
	if x != want || e != wanted {
		t.Fatalf("%s(%v) = %v, %v, want %v, %v", what, args, x, e, want, wanted)
	}
}

// P10.1: the examples of the chapter.
func TestPlusExamples(t *testing.T) {
	for _, x := range [][3]int64{{most, 1, most}, {least, -1, least}, {3, -5, -2}, {most, least, -1}, {least, least, least}, {most, most, most}, {0, least, least}} {
		if got := offsets.Plus(x[0], x[1]); got != x[2] {
			t.Errorf("Plus(%v, %v) = %v, want %v", x[0], x[1], got, x[2])
		}
	}
}

// P10.1, P10.8: at the edges and of any numbers, Plus is the sum that never goes
// round, brought into its range; it is the same the other way round.
func TestPlus(t *testing.T) {
	look := func(a, b int64) {
		got, exact := offsets.Plus(a, b), sum(a, b)
		if want := plainInto(exact, least, most); got != want {
			t.Fatalf("Plus(%v, %v) = %v, want %v", a, b, got, want)
		}
		if back := offsets.Plus(b, a); back != got {
			t.Fatalf("Plus(%v, %v) = %v, but %v the other way round", a, b, got, back)
		}
		if exact.IsInt64() && got != a+b {
			t.Fatalf("Plus(%v, %v) = %v is not the sum", a, b, got)
		}
	}
	for _, a := range edges() {
		for _, b := range edges() {
			look(a, b)
		}
	}
	r := rand.New(rand.NewSource(1))
	for range 10000 {
		look(int64(r.Uint64()), int64(r.Uint64()))
	}
}

// plainShift is the exact sum that is brought into the range of offsets.
func plainShift(x, by, total, view int64) (int64, api.Errno) {
	if total < 0 || total > 1<<62 || view < 1 || view > 1<<31 {
		return 0, api.ErrArg
	}
	last := int64(0)
	if total > view {
		last = total - view
	}
	return plainInto(sum(x, by), 0, last), api.OK
}

// lookClamp compares Clamp and Shift with the plain ones.
func lookClamp(t *testing.T, x, by, total, view int64) {
	t.Helper()
	want, wanted := plainShift(x, by, total, view)
	got, e := offsets.Shift(x, by, total, view)
	number(t, "Shift", []int64{x, by, total, view}, got, e, want, wanted)
	want, wanted = plainShift(x, 0, total, view)
	got, e = offsets.Clamp(x, total, view)
	number(t, "Clamp", []int64{x, total, view}, got, e, want, wanted)
	again, f := offsets.Clamp(got, total, view)
	number(t, "Clamp", []int64{got, total, view}, again, f, got, e)
}

// P10.2: the examples of the chapter.
func TestClampExamples(t *testing.T) {
	for _, x := range []struct{ x, by, total, view, want int64 }{
		{50, 0, 100, 30, 50}, {90, 0, 100, 30, 70}, {-1, 0, 100, 30, 0}, {5, 0, 20, 30, 0},
		{50, most, 100, 30, 70}, {least, -1, 100, 30, 0},
		{70, 0, 100, 30, 70}, {71, 0, 100, 30, 70}, {most, most, 1 << 62, 1, 1<<62 - 1},
		{1, 0, 0, 1, 0}, {1, 0, 30, 30, 0}, {1, 0, 31, 30, 1}, {most, 0, 1 << 62, 1 << 31, 1<<62 - 1<<31},
	} {
		got, e := offsets.Shift(x.x, x.by, x.total, x.view)
		number(t, "Shift", []int64{x.x, x.by, x.total, x.view}, got, e, x.want, api.OK)
		if x.by == 0 {
			got, e = offsets.Clamp(x.x, x.total, x.view)
			number(t, "Clamp", []int64{x.x, x.total, x.view}, got, e, x.want, api.OK)
		}
	}
}

// P10.2, P10.8: all small numbers; Clamp of a result of Clamp is that result.
func TestClampSmall(t *testing.T) {
	for total := int64(-2); total <= 9; total++ {
		for view := int64(-2); view <= 10; view++ {
			for x := int64(-4); x <= 11; x++ {
				for by := int64(-4); by <= 4; by++ {
					lookClamp(t, x, by, total, view)
				}
			}
		}
	}
}

// P10.2, P10.8: numbers at the edges, those of the limits among them.
func TestClampEdges(t *testing.T) {
	of := edges()
	for _, x := range of {
		for _, by := range of {
			for _, total := range of {
				for _, view := range []int64{least, -1, 0, 1, 2, 30, api.MaxView - 1, api.MaxView, api.MaxView + 1, api.MaxTotal, most} {
					lookClamp(t, x, by, total, view)
				}
			}
		}
	}
}

// P10.2: an offset is no reason for an error, but a wrong total or view is.
func TestClampErrors(t *testing.T) {
	for _, x := range [][2]int64{{-1, 30}, {1<<62 + 1, 30}, {least, 30}, {most, 30}, {100, 0}, {100, -1}, {100, 1<<31 + 1}, {100, least}, {100, most}, {-1, 0}} {
		got, e := offsets.Clamp(5, x[0], x[1])
		number(t, "Clamp", []int64{5, x[0], x[1]}, got, e, 0, api.ErrArg)
		got, e = offsets.Shift(5, 1, x[0], x[1])
		number(t, "Shift", []int64{5, 1, x[0], x[1]}, got, e, 0, api.ErrArg)
	}
}

// lookCeil compares Ceil with the least number that is enough.
func lookCeil(t *testing.T, a, b int64) {
	t.Helper()
	got, e := offsets.Ceil(a, b)
	if a < 0 || b < 1 {
		number(t, "Ceil", []int64{a, b}, got, e, 0, api.ErrArg)
		return
	}
	product := func(q int64) *big.Int { return new(big.Int).Mul(whole(q), whole(b)) }
	if e != api.OK || got < 0 || product(got).Cmp(whole(a)) < 0 || got > 0 && product(got-1).Cmp(whole(a)) >= 0 {
		t.Fatalf("Ceil(%v, %v) = %v, %v", a, b, got, e)
	}
}

// P10.3: the examples of the chapter, small numbers, and those at the edges.
func TestCeil(t *testing.T) {
	for _, x := range [][3]int64{{7, 3, 3}, {6, 3, 2}, {0, 3, 0}, {1, most, 1}, {most, 1, most}, {most, most, 1}, {most, 2, 1 << 62}, {most - 1, most, 1}, {0, most, 0}} {
		got, e := offsets.Ceil(x[0], x[1])
		number(t, "Ceil", x[:2], got, e, x[2], api.OK)
	}
	for _, x := range [][2]int64{{-1, 3}, {least, 1}, {7, 0}, {7, -1}, {7, least}, {0, 0}, {-1, 0}} {
		got, e := offsets.Ceil(x[0], x[1])
		number(t, "Ceil", x[:], got, e, 0, api.ErrArg)
	}
	for _, of := range [][]int64{count(-3, 40), edges()} {
		for _, a := range of {
			for _, b := range of {
				lookCeil(t, a, b)
			}
		}
	}
}

// P10.4: the example of the chapter, and numbers at the edges.
func TestBound(t *testing.T) {
	of := append(edges(), 2, 7, 10, 25, 100)
	for _, view := range of {
		for _, low := range of {
			for _, over := range []int{math.MinInt, -1, 0, 1, 2, 15, 16, 17, math.MaxInt} {
				got, e := offsets.Bound(view, low, over)
				if view < 1 || view > 1<<31 || low < 1 || low > 1<<61 || over < 0 || over > 16 {
					number(t, "Bound", []int64{view, low, int64(over)}, got, e, 0, api.ErrArg)
					continue
				}
				rows := (view-1)/low + 1
				number(t, "Bound", []int64{view, low, int64(over)}, got, e, rows+2*int64(over)+2, api.OK)
			}
		}
	}
	for _, x := range [][4]int64{{100, 30, 2, 10}, {1, 1 << 61, 0, 3}, {1 << 31, 1, 16, 1<<31 + 34}, {90, 30, 0, 5}, {91, 30, 0, 6}} {
		got, e := offsets.Bound(x[0], x[1], int(x[2]))
		number(t, "Bound", x[:3], got, e, x[3], api.OK)
	}
}

// plainTops are the tops and the total of sizes.
func plainTops(sizes []int64) ([]int64, api.Errno) {
	if len(sizes) > 4096 {
		return nil, api.ErrLimit
	}
	top := whole(0)
	out := []int64{0}
	for _, size := range sizes {
		if size < 0 || size > 1<<61 {
			return nil, api.ErrHeight
		}
		top.Add(top, whole(size))
		if top.Cmp(whole(1<<62)) > 0 {
			return nil, api.ErrOverflow
		}
		out = append(out, top.Int64())
	}
	return out, api.OK
}

// lookSizes compares Tops and Rows with the plain ones.
func lookSizes(t *testing.T, sizes []int64) {
	t.Helper()
	want, wanted := plainTops(sizes)
	arg := slices.Clone(sizes)
	tops, e := offsets.Tops(arg)
	if e != wanted || !slices.Equal(tops, want) || !slices.Equal(arg, sizes) || len(tops) != cap(tops) {
		t.Fatalf("Tops(%v) = %v, %v, capacity %d, want %v, %v; the sizes are %v", sizes, tops, e, cap(tops), want, wanted, arg)
	}
	var rows []complex128
	switch {
	case wanted != api.OK:
	case want[len(sizes)] >= 1<<53:
		wanted = api.ErrOverflow
	default:
		for i, size := range sizes {
			rows = append(rows, complex(float64(want[i]), float64(size)))
		}
	}
	got, e := offsets.Rows(arg)
	if e != wanted || !slices.Equal(got, rows) || !slices.Equal(arg, sizes) || len(got) != cap(got) {
		t.Fatalf("Rows(%v) = %v, %v, capacity %d, want %v, %v; the sizes are %v", sizes, got, e, cap(got), rows, wanted, arg)
	}
}

// P10.5, P10.6: the examples of the chapter, and no sizes.
func TestSizesExamples(t *testing.T) {
	tops, e := offsets.Tops([]int64{3, 0, 5})
	if e != api.OK || !slices.Equal(tops, []int64{0, 3, 3, 8}) {
		t.Error(tops, e)
	}
	rows, e := offsets.Rows([]int64{3, 0, 5})
	if e != api.OK || !slices.Equal(rows, []complex128{0 + 3i, 3 + 0i, 3 + 5i}) {
		t.Error(rows, e)
	}
	tops, e = offsets.Tops(nil)
	if e != api.OK || !slices.Equal(tops, []int64{0}) {
		t.Error(tops, e)
	}
	rows, e = offsets.Rows(nil)
	if e != api.OK || len(rows) != 0 {
		t.Error(rows, e)
	}
}

// P10.5, P10.6: all short lists of sizes, among them those with several errors.
func TestSizesShort(t *testing.T) {
	of := []int64{least, -1, 0, 1, 5, exact - 6, exact - 1, exact, 1 << 60, 1<<61 - 1, 1 << 61, 1<<61 + 1, most}
	for n := range 5 {
		lists(n, of, func(sizes []int64) { lookSizes(t, sizes) })
	}
}

// P10.5: the first size with an error tells it, and of one size with both the height
// comes first; a total at the limit is none.
func TestSizesErrors(t *testing.T) {
	const h = int64(1) << 61
	for _, x := range []struct {
		sizes []int64
		tops  api.Errno
		rows  api.Errno
	}{
		{[]int64{h, h}, api.OK, api.ErrOverflow},
		{[]int64{h, h, 0, 0}, api.OK, api.ErrOverflow},
		{[]int64{h, h, 1}, api.ErrOverflow, api.ErrOverflow},
		{[]int64{h, h, 1, -1}, api.ErrOverflow, api.ErrOverflow},
		{[]int64{h, h, -1, h}, api.ErrHeight, api.ErrHeight},
		{[]int64{h, h, h + 1}, api.ErrHeight, api.ErrHeight},
		{[]int64{most, most}, api.ErrHeight, api.ErrHeight},
		{[]int64{exact, -1}, api.ErrHeight, api.ErrHeight},
		{[]int64{exact - 1}, api.OK, api.OK},
		{[]int64{exact - 1, 0}, api.OK, api.OK},
		{[]int64{exact - 1, 1}, api.OK, api.ErrOverflow},
		{[]int64{1, exact - 1, 0}, api.OK, api.ErrOverflow},
		{[]int64{exact}, api.OK, api.ErrOverflow},
	} {
		lookSizes(t, x.sizes)
		tops, e := offsets.Tops(x.sizes)
		rows, f := offsets.Rows(x.sizes)
		if e != x.tops || f != x.rows || e != api.OK && len(tops) > 0 || f != api.OK && len(rows) > 0 {
			t.Errorf("%v: %v, %v, want %v, %v", x.sizes, e, f, x.tops, x.rows)
		}
	}
}

// P10.5, P10.6: lists at the limit, and beyond it.
func TestSizesLimit(t *testing.T) {
	lookSizes(t, fill(maxList, 0))
	lookSizes(t, fill(maxList, 7))
	lookSizes(t, fill(maxList, exact/maxList))
	lookSizes(t, fill(maxList, exact/maxList-1))
	lookSizes(t, fill(maxList, api.MaxTotal/maxList))
	lookSizes(t, fill(maxList, api.MaxTotal/maxList+1))
	for _, size := range []int64{0, 1, -1, api.MaxHeight} {
		sizes := fill(maxList+1, size)
		tops, e := offsets.Tops(sizes)
		rows, f := offsets.Rows(sizes)
		if e != api.ErrLimit || f != api.ErrLimit || len(tops) > 0 || len(rows) > 0 {
			t.Errorf("%d sizes of %d: %v, %v", len(sizes), size, e, f)
		}
	}
}

// isPlain tells whether a number may be in an exact row.
func isPlain(x float64) bool {
	return x >= 0 && x <= 1<<53-1 && x == math.Floor(x)
}

// plainSlide are the rows with other tops, for lists that are not too long.
func plainSlide(rows []complex128, by int64) ([]complex128, api.Errno) {
	for _, row := range rows {
		if !isPlain(real(row)) || !isPlain(imag(row)) {
			return nil, api.ErrRange
		}
	}
	var out []complex128
	for _, row := range rows {
		top := sum(int64(real(row)), by)
		if top.Sign() < 0 || top.Cmp(whole(1<<53-1)) > 0 {
			return nil, api.ErrOverflow
		}
		out = append(out, complex(float64(top.Int64()), imag(row)))
	}
	return out, api.OK
}

// bits are the bits of the parts of rows, so that what is no number is equal to itself.
func bits(rows []complex128) []uint64 {
	var out []uint64
	for _, row := range rows {
		out = append(out, math.Float64bits(real(row)), math.Float64bits(imag(row)))
	}
	return out
}

// lookSlide compares Slide with the plain one; sliding back changes nothing.
func lookSlide(t *testing.T, rows []complex128, by int64) {
	t.Helper()
	want, wanted := plainSlide(rows, by)
	arg := slices.Clone(rows)
	got, e := offsets.Slide(arg, by)
	if e != wanted || !slices.Equal(got, want) || !slices.Equal(bits(arg), bits(rows)) || len(got) != cap(got) {
		t.Fatalf("Slide(%v, %v) = %v, %v, capacity %d, want %v, %v; the rows are %v", rows, by, got, e, cap(got), want, wanted, arg)
	}
	if len(got) > 0 && &got[0] == &arg[0] {
		t.Fatalf("Slide(%v, %v) shares memory with its argument", rows, by)
	}
	if e != api.OK || by == least {
		return
	}
	back, e := offsets.Slide(got, -by)
	if e != api.OK || !slices.Equal(back, rows) {
		t.Fatalf("Slide(%v, %v) = %v, and back %v, %v", rows, by, got, back, e)
	}
}

// parts are numbers of which some may be in an exact row, and others may not.
func parts() []float64 {
	return []float64{
		0, math.Copysign(0, -1), 1, 2, 5, 1<<53 - 2, 1<<53 - 1,
		-1, 0.5, 1.5, -0.5, 1<<52 - 0.5, 1 << 53, 1<<53 + 2, 1 << 62, 1 << 63, 1 << 64, 1e300, math.SmallestNonzeroFloat64, math.MaxFloat64,
		math.NaN(), math.Inf(1), math.Inf(-1),
	}
}

// bys are numbers by which rows are slid.
func bys() []int64 { return append(edges(), 2, -2, 3, -3, 2-exact, 3-exact, exact-2) }

// P10.6, P10.8: one row of any parts; of those that are not exact, none is slid.
func TestSlideOne(t *testing.T) {
	for _, by := range bys() {
		lookSlide(t, nil, by)
		for _, top := range parts() {
			for _, size := range parts() {
				lookSlide(t, []complex128{complex(top, size)}, by)
			}
		}
	}
}

// P10.6, P10.8: all short lists of rows; a row that is not exact is told ahead of a
// top that would not be, wherever they are.
func TestSlideShort(t *testing.T) {
	of := []complex128{0, 3 + 4i, 5, complex(1<<53-1, 2), complex(1<<53-3, 1<<53-1), 0.5 + 1i, complex(2, math.NaN())}
	for n := range 5 {
		lists(n, of, func(rows []complex128) {
			for _, by := range []int64{least, -exact, 1 - exact, -5, -3, -1, 0, 1, 2, 3, exact - 6, exact - 1, exact, most} {
				lookSlide(t, rows, by)
			}
		})
	}
	for _, x := range []struct {
		rows []complex128
		by   int64
		e    api.Errno
	}{
		{[]complex128{0, 0.5}, -1, api.ErrRange}, {[]complex128{0.5, 0}, -1, api.ErrRange}, {[]complex128{0, 1}, -1, api.ErrOverflow},
		{[]complex128{1, 0}, -1, api.ErrOverflow}, {[]complex128{1 + 3i, 1}, -1, api.OK}, {[]complex128{complex(1<<53-1, 0)}, 1, api.ErrOverflow},
		{[]complex128{complex(0, 1<<53-1)}, exact - 1, api.OK}, {nil, least, api.OK},
	} {
		if _, e := offsets.Slide(x.rows, x.by); e != x.e {
			t.Errorf("Slide(%v, %v): %v, want %v", x.rows, x.by, e, x.e)
		}
	}
}

// P10.6: lists at the limit, and beyond it, where nothing else is looked at.
func TestSlideLimit(t *testing.T) {
	rows, e := offsets.Rows(fill(maxList, 9))
	if e != api.OK {
		t.Fatal(e)
	}
	for _, by := range []int64{0, 1000, exact - 9*maxList, exact - 9*(maxList-1), -1} {
		lookSlide(t, rows, by)
	}
	rows[maxList-1] = -1
	lookSlide(t, rows, -1)
	for _, row := range []complex128{0, 1 + 1i, -1, complex(math.NaN(), 0)} {
		long := make([]complex128, maxList+1)
		long[0] = row
		if got, e := offsets.Slide(long, -1); e != api.ErrLimit || len(got) > 0 {
			t.Errorf("%d rows, %v: %v, %v", len(long), row, len(got), e)
		}
	}
}

// plainMeets tells by the sums that never go round whether a row meets the viewport.
func plainMeets(row complex128, s, v int64) bool {
	if !isPlain(real(row)) || !isPlain(imag(row)) || s < 0 || s > 1<<62 || v < 1 || v > 1<<31 {
		return false
	}
	top, size := int64(real(row)), int64(imag(row))
	return whole(top).Cmp(sum(s, v)) < 0 && sum(top, size).Cmp(whole(s)) > 0
}

// lookMeets compares Meets with the plain one.
func lookMeets(t *testing.T, row complex128, s, v int64) {
	t.Helper()
	if got := offsets.Meets(row, s, v); got != plainMeets(row, s, v) {
		t.Fatalf("Meets(%v, %v, %v) = %v", row, s, v, got)
	}
}

// P10.7: the examples of the chapter; a row without a size is met between the ends
// alone; a number that is wrong makes it false.
func TestMeetsExamples(t *testing.T) {
	for _, x := range []struct {
		row  complex128
		s, v int64
		want bool
	}{
		{3 + 5i, 8, 1, false}, {3 + 5i, 7, 1, true}, {3 + 5i, 2, 1, false}, {3 + 5i, 2, 2, true},
		{3, 3, 5, false}, {3, 2, 5, true}, {3, 2, 1, false}, {0, 0, 1, false},
		{3 + 5i, 0, 1 << 31, true}, {3 + 5i, 0, 1<<31 + 1, false}, {3 + 5i, 5, 0, false}, {3 + 5i, 5, -1, false}, {3 + 5i, -1, 30, false},
		{3.5 + 5i, 5, 1, false}, {complex(3, 4.5), 5, 1, false}, {complex(math.NaN(), 5), 5, 1, false}, {complex(3, math.Inf(1)), 5, 1, false},
		{complex(1<<53, 5), 1 << 53, 1, false}, {complex(1<<53-1, 1), 1<<53 - 1, 1, true}, {complex(0, 1<<53), 5, 1, false}, {complex(0, 1<<53-1), 5, 1, true},
		{complex(1<<53-2, 1<<53-1), 1<<54 - 4, 1, true}, {complex(1<<53-2, 1<<53-1), 1<<54 - 3, 1, false},
		{complex(1<<53-1, 1<<53-1), 1 << 62, 1 << 31, false},
	} {
		lookMeets(t, x.row, x.s, x.v)
		if got := offsets.Meets(x.row, x.s, x.v); got != x.want {
			t.Errorf("Meets(%v, %v, %v) = %v", x.row, x.s, x.v, got)
		}
	}
}

// P10.7: small rows meet a viewport if a pixel is in both of them.
func TestMeetsSmall(t *testing.T) {
	for top := range int64(8) {
		for size := range int64(6) {
			for s := int64(-1); s <= 14; s++ {
				for v := int64(-1); v <= 9; v++ {
					row := complex(float64(top), float64(size))
					lookMeets(t, row, s, v)
					pixel := false
					for x := top; x < top+size; x++ {
						pixel = pixel || s >= 0 && x >= s && x < s+v
					}
					if size > 0 && offsets.Meets(row, s, v) != pixel {
						t.Fatalf("Meets(%v, %v, %v) = %v", row, s, v, !pixel)
					}
				}
			}
		}
	}
}

// P10.7: any rows, and viewports at the edges, also where sums are no exact floats.
func TestMeetsEdges(t *testing.T) {
	of := append(edges(), 2*exact-5, 2*exact-4, 2*exact-3, 2*exact-2, 2*exact-1, exact-api.MaxView-1, exact-api.MaxView)
	for _, top := range parts() {
		for _, size := range parts() {
			for _, s := range of {
				for _, v := range of {
					lookMeets(t, complex(top, size), s, v)
				}
			}
		}
	}
}

// attached counts the rows that meet a viewport, and those of the window that is
// wider by over rows at both ends, with one more if there is one outside.
func attached(rows []complex128, s, v int64, over int) (meet, window int64) {
	first, behind := len(rows), 0
	for i, row := range rows {
		if offsets.Meets(row, s, v) {
			meet++
			first, behind = min(first, i), i+1
		}
	}
	if meet == 0 {
		return 0, 1
	}
	from, to := max(0, first-over), min(len(rows), behind+over)
	window = int64(to - from)
	if from > 0 || to < len(rows) {
		window++
	}
	return meet, window
}

// P10.8: no more rows than the bounds say meet a viewport and are in its window, and
// the bounds are reached.
func TestBounds(t *testing.T) {
	r := rand.New(rand.NewSource(2))
	reached, full := 0, 0
	for range 300 {
		low, view, over := 1+r.Int63n(6), 1+r.Int63n(25), r.Intn(4)
		sizes := make([]int64, 30+r.Intn(20))
		for i := range sizes {
			sizes[i] = low + r.Int63n(3)*r.Int63n(2)
		}
		tops, e := offsets.Tops(sizes)
		rows, f := offsets.Rows(sizes)
		visible, g := offsets.Ceil(view, low)
		bound, h := offsets.Bound(view, low, over)
		if e != api.OK || f != api.OK || g != api.OK || h != api.OK {
			t.Fatal(e, f, g, h)
		}
		for s := range tops[len(sizes)] {
			meet, window := attached(rows, s, view, over)
			if meet > visible+1 || window > bound {
				t.Fatalf("%v: at %d, %d of %d rows, %d of %d in the window", sizes, s, meet, visible+1, window, bound)
			}
			if meet == visible+1 {
				reached++
			}
			if window == bound {
				full++
			}
		}
	}
	if reached == 0 || full == 0 {
		t.Errorf("the bounds are reached %d and %d times", reached, full)
	}
}

// P10.6, P10.8: rows of any sizes that are slid and slid back are what they were.
func TestSlideRows(t *testing.T) {
	r := rand.New(rand.NewSource(3))
	for range 300 {
		sizes := make([]int64, r.Intn(40))
		for i := range sizes {
			sizes[i] = r.Int63n(1 << 47)
		}
		rows, e := offsets.Rows(sizes)
		if e != api.OK {
			t.Fatal(e)
		}
		for range 5 {
			lookSlide(t, rows, r.Int63n(1<<r.Intn(60)))
		}
	}
}
