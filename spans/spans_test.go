package spans_test

import (
	"math"
	"slices"
	"testing"

	"paternoster/api"
	"paternoster/spans"
)

// most is one place more than the sets have that are tried one and all.
const most = 6

// sp returns the spans whose ends are given in pairs.
func sp(ends ...int) []spans.Span {
	var out []spans.Span
	for i := 0; i < len(ends); i += 2 {
		out = append(out, spans.Span{From: ends[i], To: ends[i+1]})
	}
	return out
}

// comb returns n spans of one place, at every second place from first on.
func comb(first, n int) []spans.Span {
	var out []spans.Span
	for i := range n {
		out = append(out, spans.Span{From: first + 2*i, To: first + 2*i + 1})
	}
	return out
}

// list returns the only list of the set of those places for which in says
// yes, found place by place.
func list(size int, in func(i int) bool) []spans.Span {
	var out []spans.Span
	for i := range size {
		switch {
		case !in(i):
		case i > 0 && in(i-1):
			out[len(out)-1].To++
		default:
			out = append(out, spans.Span{From: i, To: i + 1})
		}
	}
	return out
}

// set returns the set of the places whose bits are set.
func set(bits int) []spans.Span {
	return list(most+1, func(i int) bool { return bits>>i&1 == 1 })
}

// good fails unless a result is the wanted set, without spare capacity.
func good(t *testing.T, what string, got []spans.Span, e api.Errno, want []spans.Span) {
	t.Helper()
	if e != api.OK || !slices.Equal(got, want) || spans.Check(got) != api.OK {
		t.Errorf("%s: %v, %v; want %v", what, got, e, want)
	}
	if cap(got) != len(got) {
		t.Errorf("%s: capacity %d for %d spans", what, cap(got), len(got))
	}
}

// bad fails unless a result is the wanted error alone.
func bad(t *testing.T, what string, got []spans.Span, e, want api.Errno) {
	t.Helper()
	if e != want || len(got) != 0 {
		t.Errorf("%s: %v, %v; want error %v", what, got, e, want)
	}
}

// wrong contains lists that are no sets, and their errors.
func wrong() []struct {
	l []spans.Span
	e api.Errno
} {
	return []struct {
		l []spans.Span
		e api.Errno
	}{
		{sp(-1, 2), api.ErrArg},
		{sp(1, 1), api.ErrArg},
		{sp(2, 1), api.ErrArg},
		{sp(0, spans.MaxPlace+1), api.ErrArg},
		{sp(math.MinInt, math.MaxInt), api.ErrArg},
		{sp(math.MaxInt, math.MinInt), api.ErrArg},
		{sp(1, 4, 4, 5), api.ErrOrder},
		{sp(1, 4, 3, 5), api.ErrOrder},
		{sp(2, 3, 0, 1), api.ErrOrder},
		{sp(1, 4, 1, 4), api.ErrOrder},
		{sp(1, 4, 3, 3), api.ErrArg},           // both of one span
		{sp(1, 4, 2, 3, 9, 9), api.ErrOrder},   // the first span that has one
		{sp(1, 4, 9, 9, 2, 3), api.ErrArg},     // the first span that has one
		{sp(5, 6, 0, 1, -3, 2), api.ErrOrder},  // the first span that has one
		{comb(0, api.MaxList+1), api.ErrLimit}, // each span is right
		{append(sp(3, 2), comb(0, api.MaxList)...), api.ErrLimit},
	}
}

// P1.1
func TestCheck(t *testing.T) {
	for _, l := range [][]spans.Span{
		nil,
		{},
		sp(0, 1),
		sp(0, spans.MaxPlace),
		sp(spans.MaxPlace-1, spans.MaxPlace),
		sp(0, 1, 2, 3),
		sp(1, 4, 6, 8, 100, 200),
		comb(0, api.MaxList),
	} {
		if e := spans.Check(l); e != api.OK {
			t.Errorf("%v: %v", l, e)
		}
	}
	for i, x := range wrong() {
		if e := spans.Check(x.l); e != x.e {
			t.Errorf("list %d: %v; want %v", i, e, x.e)
		}
	}
}

// P1.2
func TestOf(t *testing.T) {
	for _, x := range []struct {
		places []int
		want   []spans.Span
	}{
		{nil, nil},
		{[]int{}, nil},
		{[]int{3, 1, 2, 7, 1}, sp(1, 4, 7, 8)},
		{[]int{5, 5, 5}, sp(5, 6)},
		{[]int{2, 0, 4}, sp(0, 1, 2, 3, 4, 5)},
		{[]int{spans.MaxPlace - 1, 0}, sp(0, 1, spans.MaxPlace-1, spans.MaxPlace)},
	} {
		before := slices.Clone(x.places)
		got, e := spans.Of(x.places)
		good(t, "Of", got, e, x.want)
		if !slices.Equal(before, x.places) {
			t.Errorf("%v became %v", before, x.places)
		}
	}
	for _, l := range [][]int{{-1}, {spans.MaxPlace}, {1, 2, -1, 3}, {1, spans.MaxPlace, 0}, {math.MinInt}, {math.MaxInt}} {
		got, e := spans.Of(l)
		bad(t, "Of", got, e, api.ErrRange)
	}
}

// P1.2
func TestOfLimit(t *testing.T) {
	var places []int
	for i := range api.MaxList {
		places = append(places, 2*(api.MaxList-1-i))
	}
	got, e := spans.Of(places)
	good(t, "at the limit", got, e, comb(0, api.MaxList))
	// A place that joins two spans leaves room for one more.
	got, e = spans.Of(append(slices.Clone(places), 1, 2*api.MaxList))
	good(t, "joined", got, e, append(sp(0, 3), comb(4, api.MaxList-1)...))
	over := append(slices.Clone(places), 2*api.MaxList)
	got, e = spans.Of(over)
	bad(t, "over the limit", got, e, api.ErrLimit)
	got, e = spans.Of(append(over, -1))
	bad(t, "both errors", got, e, api.ErrRange)
}

// P1.3
func TestHasAndCount(t *testing.T) {
	l := sp(1, 4, 6, 8)
	for i := -2; i < 12; i++ {
		want := i == 1 || i == 2 || i == 3 || i == 6 || i == 7
		if spans.Has(l, i) != want {
			t.Errorf("Has(%d): %v", i, !want)
		}
	}
	if n := spans.Count(l); n != 5 {
		t.Errorf("Count: %d", n)
	}
	whole := sp(0, spans.MaxPlace)
	if !spans.Has(whole, 0) || !spans.Has(whole, spans.MaxPlace-1) || spans.Has(whole, spans.MaxPlace) || spans.Has(whole, -1) {
		t.Error("Has of all places")
	}
	if spans.Has(whole, math.MinInt) || spans.Has(whole, math.MaxInt) {
		t.Error("Has of no place")
	}
	if n := spans.Count(whole); n != spans.MaxPlace {
		t.Errorf("Count of all places: %d", n)
	}
	if spans.Has(nil, 0) || spans.Count(nil) != 0 {
		t.Error("Has or Count of no places")
	}
	if n := spans.Count(comb(0, api.MaxList)); n != api.MaxList {
		t.Errorf("Count at the limit: %d", n)
	}
}

// P1.3
func TestHasAndCountOfWrongLists(t *testing.T) {
	for i, x := range wrong() {
		for place := -2; place < 12; place++ {
			if spans.Has(x.l, place) {
				t.Errorf("list %d has %d", i, place)
			}
		}
		if n := spans.Count(x.l); n != 0 {
			t.Errorf("list %d: %d places", i, n)
		}
	}
}

// P1.3
func TestHasAndCountOfAllSets(t *testing.T) {
	for bits := range 1 << most {
		l, n := set(bits), 0
		for i := range most {
			in := bits>>i&1 == 1
			if in {
				n++
			}
			if spans.Has(l, i) != in {
				t.Errorf("Has(%v, %d): %v", l, i, !in)
			}
		}
		if got := spans.Count(l); got != n {
			t.Errorf("Count(%v): %d; want %d", l, got, n)
		}
	}
}

// P1.4
func TestUnionCommonWithout(t *testing.T) {
	for a := range 1 << most {
		for b := range 1 << most {
			got, e := spans.Union(set(a), set(b))
			good(t, "Union", got, e, set(a|b))
			got, e = spans.Common(set(a), set(b))
			good(t, "Common", got, e, set(a&b))
			got, e = spans.Without(set(a), set(b))
			good(t, "Without", got, e, set(a&^b))
		}
	}
}

// P1.4
func TestUnionCommonWithoutOfExamples(t *testing.T) {
	got, e := spans.Union(sp(1, 4, 7, 8), sp(4, 7))
	good(t, "Union", got, e, sp(1, 8))
	got, e = spans.Common(sp(1, 4, 7, 9), sp(2, 8))
	good(t, "Common", got, e, sp(2, 4, 7, 8))
	got, e = spans.Without(sp(1, 9), sp(2, 4, 6, 7))
	good(t, "Without", got, e, sp(1, 2, 4, 6, 7, 9))
	whole, end := sp(0, spans.MaxPlace), sp(spans.MaxPlace-2, spans.MaxPlace)
	got, e = spans.Union(end, whole)
	good(t, "Union of all", got, e, whole)
	got, e = spans.Common(whole, end)
	good(t, "Common of all", got, e, end)
	got, e = spans.Without(whole, end)
	good(t, "Without of all", got, e, sp(0, spans.MaxPlace-2))
}

// P1.4
func TestUnionCommonWithoutErrors(t *testing.T) {
	for _, f := range []func(a, b []spans.Span) ([]spans.Span, api.Errno){spans.Union, spans.Common, spans.Without} {
		for _, x := range wrong() {
			got, e := f(x.l, nil)
			bad(t, "a", got, e, x.e)
			got, e = f(sp(0, 9), x.l)
			bad(t, "b", got, e, x.e)
			got, e = f(x.l, sp(3, 3))
			bad(t, "a ahead of b", got, e, x.e)
		}
		got, e := f(sp(2, 3, 0, 1), comb(0, api.MaxList+1))
		bad(t, "a ahead of a limit of b", got, e, api.ErrOrder)
	}
}

// P1.4
func TestUnionCommonWithoutLimit(t *testing.T) {
	full, last := comb(0, api.MaxList), 2*api.MaxList
	got, e := spans.Union(full, nil)
	good(t, "Union at the limit", got, e, full)
	got, e = spans.Union(full, sp(last, last+1))
	bad(t, "Union over the limit", got, e, api.ErrLimit)
	got, e = spans.Union(sp(last, last+1), full)
	bad(t, "Union over the limit", got, e, api.ErrLimit)
	// The list is longer on the way than it is at the end.
	got, e = spans.Union(full, comb(1, api.MaxList))
	good(t, "Union of two full sets", got, e, sp(0, last))

	// Full has one span fewer when the place between two of them joins them.
	joined, eu := spans.Union(full, sp(1, 2))
	if eu != api.OK || len(joined) != api.MaxList-1 {
		t.Fatal(len(joined), eu)
	}
	got, e = spans.Without(sp(0, last), comb(1, api.MaxList))
	good(t, "Without at the limit", got, e, full)
	got, e = spans.Without(sp(0, last+1), comb(1, api.MaxList))
	bad(t, "Without over the limit", got, e, api.ErrLimit)

	got, e = spans.Common(full, full)
	good(t, "Common at the limit", got, e, full)
	// Two spans of a in the first one of b, and one in each other.
	wide := append(sp(0, 3), comb(4, api.MaxList-1)...)
	got, e = spans.Common(append(comb(0, api.MaxList-1), sp(last-2, last+1)...), wide)
	bad(t, "Common over the limit", got, e, api.ErrLimit)
}

// shifted returns a set of which each place went where to says, or away if
// that is less than 0.
func shifted(bits int, to func(i int) int) []spans.Span {
	places := map[int]bool{}
	for i := range most {
		if bits>>i&1 == 1 && to(i) >= 0 {
			places[to(i)] = true
		}
	}
	return list(3*most, func(i int) bool { return places[i] })
}

// P1.5
func TestInsert(t *testing.T) {
	for bits := range 1 << most {
		for at := range most + 2 {
			for n := range most {
				got, e := spans.Insert(set(bits), at, n)
				good(t, "Insert", got, e, shifted(bits, func(i int) int {
					if i < at {
						return i
					}
					return i + n
				}))
			}
		}
	}
	for _, x := range []struct{ at, n, a, b, c, d int }{{2, 3, 1, 2, 5, 7}, {1, 3, 4, 7, 0, 0}, {4, 3, 1, 4, 0, 0}} {
		want := sp(x.a, x.b)
		if x.d > 0 {
			want = sp(x.a, x.b, x.c, x.d)
		}
		got, e := spans.Insert(sp(1, 4), x.at, x.n)
		good(t, "Insert", got, e, want)
	}
}

// P1.5
func TestInsertErrors(t *testing.T) {
	for _, x := range wrong() {
		got, e := spans.Insert(x.l, -1, -1)
		bad(t, "Insert", got, e, x.e)
		got, e = spans.Insert(x.l, 0, 0)
		bad(t, "Insert", got, e, x.e)
	}
	for _, l := range [][]spans.Span{nil, sp(2, 5)} {
		for _, x := range [][2]int{{-1, 0}, {0, -1}, {spans.MaxPlace + 1, 0}, {0, spans.MaxPlace + 1}, {math.MinInt, math.MaxInt}, {math.MaxInt, math.MinInt}} {
			got, e := spans.Insert(l, x[0], x[1])
			bad(t, "Insert", got, e, api.ErrRange)
		}
	}
	// Only places that are there can become too great.
	got, e := spans.Insert(sp(2, 5), 4, spans.MaxPlace-5)
	good(t, "Insert", got, e, sp(2, 4, spans.MaxPlace-1, spans.MaxPlace))
	got, e = spans.Insert(sp(2, 5), 4, spans.MaxPlace-4)
	bad(t, "Insert", got, e, api.ErrRange)
	got, e = spans.Insert(sp(2, 5), 5, spans.MaxPlace)
	good(t, "Insert", got, e, sp(2, 5))
	got, e = spans.Insert(sp(2, 5), spans.MaxPlace, spans.MaxPlace)
	good(t, "Insert", got, e, sp(2, 5))
	got, e = spans.Insert(nil, 0, spans.MaxPlace)
	good(t, "Insert", got, e, nil)
	got, e = spans.Insert(sp(0, spans.MaxPlace), spans.MaxPlace-1, 1)
	bad(t, "Insert", got, e, api.ErrRange)
	got, e = spans.Insert(sp(0, spans.MaxPlace), spans.MaxPlace, 1)
	good(t, "Insert", got, e, sp(0, spans.MaxPlace))
}

// P1.5
func TestInsertLimit(t *testing.T) {
	l := append(sp(0, 3), comb(4, api.MaxList-1)...)
	got, e := spans.Insert(l, 1, 1)
	bad(t, "a span is divided", got, e, api.ErrLimit)
	got, e = spans.Insert(l, 1, 0)
	good(t, "nothing comes in", got, e, l)
	got, e = spans.Insert(l, 3, 1)
	good(t, "no span is divided", got, e, append(sp(0, 3), comb(5, api.MaxList-1)...))
	got, e = spans.Insert(l, 1, spans.MaxPlace)
	bad(t, "both errors", got, e, api.ErrRange)
}

// P1.6
func TestRemove(t *testing.T) {
	for bits := range 1 << most {
		for at := range most + 2 {
			for n := range most + 2 {
				got, e := spans.Remove(set(bits), at, n)
				good(t, "Remove", got, e, shifted(bits, func(i int) int {
					switch {
					case i < at:
						return i
					case i < at+n:
						return -1
					}
					return i - n
				}))
			}
		}
	}
	got, e := spans.Remove(sp(1, 4, 6, 8), 3, 3)
	good(t, "Remove", got, e, sp(1, 5))
	got, e = spans.Remove(sp(1, 4), 0, 9)
	good(t, "Remove", got, e, nil)
}

// P1.6
func TestRemoveErrors(t *testing.T) {
	for _, x := range wrong() {
		got, e := spans.Remove(x.l, -1, -1)
		bad(t, "Remove", got, e, x.e)
		got, e = spans.Remove(x.l, 0, 0)
		bad(t, "Remove", got, e, x.e)
	}
	for _, l := range [][]spans.Span{nil, sp(2, 5)} {
		for _, x := range [][2]int{{-1, 0}, {0, -1}, {spans.MaxPlace + 1, 0}, {0, spans.MaxPlace + 1}, {math.MinInt, math.MaxInt}, {math.MaxInt, math.MinInt}} {
			got, e := spans.Remove(l, x[0], x[1])
			bad(t, "Remove", got, e, api.ErrRange)
		}
	}
	whole := sp(0, spans.MaxPlace)
	got, e := spans.Remove(whole, 0, spans.MaxPlace)
	good(t, "all", got, e, nil)
	got, e = spans.Remove(whole, spans.MaxPlace, spans.MaxPlace)
	good(t, "behind all", got, e, whole)
	got, e = spans.Remove(whole, 5, spans.MaxPlace)
	good(t, "beyond the end", got, e, sp(0, 5))
	got, e = spans.Remove(whole, 5, 7)
	good(t, "in the middle", got, e, sp(0, spans.MaxPlace-7))
	full := comb(0, api.MaxList)
	got, e = spans.Remove(full, 0, 0)
	good(t, "nothing", got, e, full)
	got, e = spans.Remove(full, 1, 1)
	good(t, "a gap", got, e, append(sp(0, 2), comb(3, api.MaxList-2)...))
}

// P1.7: what is returned is valid by good, in all tests of P1.2 to P1.6.
func TestConsequences(t *testing.T) {
	for a := range 1 << most {
		for b := range 1 << most {
			u, _ := spans.Union(set(a), set(b))
			v, _ := spans.Union(set(b), set(a))
			c, _ := spans.Common(set(a), set(b))
			d, _ := spans.Common(set(b), set(a))
			if !slices.Equal(u, v) || !slices.Equal(c, d) {
				t.Fatalf("%v and %v: not commutative", set(a), set(b))
			}
			w, _ := spans.Without(set(a), set(b))
			both, e := spans.Common(c, w)
			good(t, "Common and Without", both, e, nil)
			all, e := spans.Union(c, w)
			good(t, "Common and Without", all, e, set(a))
		}
	}
}

// P1.7
func TestInsertAndRemove(t *testing.T) {
	for bits := range 1 << most {
		for at := range most + 2 {
			for n := range most + 2 {
				in, _ := spans.Insert(set(bits), at, n)
				back, e := spans.Remove(in, at, n)
				good(t, "Remove after Insert", back, e, set(bits))

				gone, _ := spans.Common(set(bits), list(3*most, func(i int) bool { return at <= i && i < at+n }))
				less, _ := spans.Remove(set(bits), at, n)
				if spans.Count(less) != spans.Count(set(bits))-spans.Count(gone) {
					t.Fatalf("Remove(%v, %d, %d) left %v", set(bits), at, n, less)
				}
			}
		}
	}
}

// R4: results are new memory, and arguments stay as they are.
func TestMemory(t *testing.T) {
	for i, f := range []func(l []spans.Span) ([]spans.Span, api.Errno){
		func(l []spans.Span) ([]spans.Span, api.Errno) { return spans.Union(l, nil) },
		func(l []spans.Span) ([]spans.Span, api.Errno) { return spans.Union(nil, l) },
		func(l []spans.Span) ([]spans.Span, api.Errno) { return spans.Common(l, l) },
		func(l []spans.Span) ([]spans.Span, api.Errno) { return spans.Without(l, nil) },
		func(l []spans.Span) ([]spans.Span, api.Errno) { return spans.Insert(l, 0, 0) },
		func(l []spans.Span) ([]spans.Span, api.Errno) { return spans.Remove(l, 0, 0) },
	} {
		l := sp(1, 4, 6, 8, 20, 30)
		got, e := f(l)
		good(t, "the same set", got, e, sp(1, 4, 6, 8, 20, 30))
		clear(got)
		if !slices.Equal(l, sp(1, 4, 6, 8, 20, 30)) {
			t.Errorf("function %d: the argument became %v", i, l)
		}
	}
}
