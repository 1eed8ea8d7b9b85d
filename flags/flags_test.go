package flags_test

import (
	"math"
	"math/rand"
	"reflect"
	"slices"
	"testing"

	"paternoster/api"
	"paternoster/flags"
	"paternoster/spans"
)

// of returns a list of the given bits.
func of(t *testing.T, l []bool) *flags.Flags {
	t.Helper()
	f, e := flags.New(len(l))
	if f == nil || e != api.OK {
		t.Fatalf("New(%d): %v, %v", len(l), f, e)
	}
	for i, v := range l {
		if e := f.Set(i, v); e != api.OK {
			t.Fatalf("Set(%d) of %d bits: %v", i, len(l), e)
		}
	}
	return f
}

// read returns the bits that are written as 0 and 1.
func read(text string) []bool {
	out := make([]bool, len(text))
	for i := range text {
		out[i] = text[i] == '1'
	}
	return out
}

// number returns the n lowest bits of a number.
func number(n, x int) []bool {
	out := make([]bool, n)
	for i := range out {
		out[i] = x>>i&1 == 1
	}
	return out
}

// each calls a function with all lists of up to most bits.
func each(most int, f func(l []bool)) {
	for n := range most + 1 {
		for x := range 1 << n {
			f(number(n, x))
		}
	}
}

// mixed returns n bits, of which about one in each so many is true.
func mixed(r *rand.Rand, n, each int) []bool {
	out := make([]bool, n)
	for i := range out {
		out[i] = r.Intn(each) == 0
	}
	return out
}

// lengths returns numbers of bits about the ends of words.
func lengths() []int {
	out := []int{0}
	for _, n := range []int{64, 128, 192, 1024, 4032} {
		out = append(out, n-1, n, n+1)
	}
	return append(out, api.MaxList-1, api.MaxList)
}

// far contains numbers that are no indices of lists.
func far() []int {
	return []int{-1, -2, -64, math.MinInt, math.MinInt + 1, math.MaxInt, math.MaxInt - 1, 1 << 32, -1 << 32, 1 << 62}
}

// places returns the indices of the bits of a list that are true.
func places(l []bool) []int {
	var out []int
	for i, v := range l {
		if v {
			out = append(out, i)
		}
	}
	return out
}

// bits returns the bits of a list one by one.
func bits(t *testing.T, f *flags.Flags) []bool {
	t.Helper()
	out := make([]bool, f.Len())
	for i := range out {
		v, e := f.Get(i)
		if e != api.OK {
			t.Fatalf("Get(%d) of %d: %v", i, f.Len(), e)
		}
		out[i] = v
	}
	return out
}

// same fails unless a list has the given bits, and is known by nothing else:
// what stood behind its end before must not be seen.
func same(t *testing.T, f *flags.Flags, l []bool) {
	t.Helper()
	if got := bits(t, f); !slices.Equal(got, l) {
		t.Fatalf("bits %v, want %v", got, l)
	}
	if n := len(places(l)); f.Count() != n {
		t.Fatalf("Count %d, want %d", f.Count(), n)
	}
	if fresh := of(t, l); !reflect.DeepEqual(f, fresh) {
		t.Fatalf("the list %v keeps more than its bits", l)
	}
}

// inserted returns a list with n bits put in.
func inserted(l []bool, at, n int, v bool) []bool {
	return slices.Concat(l[:at], slices.Repeat([]bool{v}, n), l[at:])
}

// removed returns a list without n bits from an index on.
func removed(l []bool, at, n int) []bool {
	return slices.Concat(l[:at], l[at+n:])
}

// moved returns a list of which n bits stand elsewhere.
func moved(l []bool, at, n, to int) []bool {
	rest := removed(l, at, n)
	return slices.Concat(rest[:to], l[at:at+n], rest[to:])
}

// P4.1
func TestNew(t *testing.T) {
	for _, n := range append(lengths(), 1, 2, 5) {
		f, e := flags.New(n)
		if f == nil || e != api.OK || f.Len() != n || f.Count() != 0 {
			t.Fatalf("New(%d): %v, %v", n, f, e)
		}
		same(t, f, make([]bool, n))
	}
	for _, n := range []int{-1, -64, math.MinInt} {
		if f, e := flags.New(n); f != nil || e != api.ErrRange {
			t.Errorf("New(%d): %v, %v", n, f, e)
		}
	}
	for _, n := range []int{api.MaxList + 1, 2 * api.MaxList, math.MaxInt} {
		if f, e := flags.New(n); f != nil || e != api.ErrLimit {
			t.Errorf("New(%d): %v, %v", n, f, e)
		}
	}
}

// P4.1: the zero Flags is a list without bits, which can be used.
func TestZero(t *testing.T) {
	var f flags.Flags
	same(t, &f, nil)
	if f.Spans() != nil || f.Copy().Len() != 0 {
		t.Error("the zero Flags is not empty")
	}
	if i, e := f.Rank(0); i != 0 || e != api.OK {
		t.Errorf("Rank(0): %d, %v", i, e)
	}
	if e := f.Insert(0, 3, true); e != api.OK {
		t.Fatal(e)
	}
	same(t, &f, read("111"))
}

// P4.1 to P4.6: a nil Flags, with arguments that are right and wrong.
func TestNil(t *testing.T) {
	var f *flags.Flags
	if f.Len() != 0 || f.Count() != 0 || len(f.Spans()) != 0 || f.Copy() != nil {
		t.Error("a nil Flags has something")
	}
	for _, i := range append(far(), 0, 1) {
		_, get := f.Get(i)
		_, rank := f.Rank(i)
		_, sel := f.Select(i)
		_, next := f.Next(i, true)
		all := []api.Errno{get, f.Set(i, true), rank, sel, next, f.Insert(i, i, false), f.Remove(i, i), f.Move(i, i, i)}
		for k, e := range all {
			if e != api.ErrNil {
				t.Errorf("method %d with %d: %v", k, i, e)
			}
		}
	}
}

// P4.1: Copy shares nothing.
func TestCopy(t *testing.T) {
	r := rand.New(rand.NewSource(1))
	for _, n := range lengths() {
		l := mixed(r, n, 2)
		f := of(t, l)
		c := f.Copy()
		same(t, c, l)
		if n == 0 {
			continue
		}
		c.Set(0, !l[0])
		c.Remove(n/2, n-n/2)
		same(t, f, l)
		g := f.Copy()
		f.Move(0, n/2, 1)
		f.Set(n-1, true)
		same(t, g, l)
	}
}

// P4.2
func TestSet(t *testing.T) {
	r := rand.New(rand.NewSource(2))
	for _, n := range lengths() {
		l := mixed(r, n, 2)
		f := of(t, l)
		for range 200 {
			if n == 0 {
				break
			}
			i, v := r.Intn(n), r.Intn(2) == 0
			if e := f.Set(i, v); e != api.OK {
				t.Fatal(e)
			}
			l[i] = v
			if got, e := f.Get(i); got != v || e != api.OK {
				t.Fatalf("Get(%d): %v, %v", i, got, e)
			}
		}
		same(t, f, l)
		for _, i := range append(far(), n, n+1, n+64, api.MaxList) {
			if v, e := f.Get(i); v || e != api.ErrRange {
				t.Errorf("Get(%d) of %d: %v, %v", i, n, v, e)
			}
			if e := f.Set(i, true); e != api.ErrRange {
				t.Errorf("Set(%d) of %d: %v", i, n, e)
			}
		}
		same(t, f, l)
	}
}

// lookUp fails unless Rank, Select, Next and Spans of a list are right.
func lookUp(t *testing.T, l []bool) {
	t.Helper()
	f, set := of(t, l), places(l)
	rank := 0
	for i := range len(l) + 1 {
		if n, e := f.Rank(i); n != rank || e != api.OK {
			t.Fatalf("Rank(%d) of %v: %d, %v", i, l, n, e)
		}
		if i < len(l) && l[i] {
			rank++
		}
	}
	for k, i := range set {
		if got, e := f.Select(k); got != i || e != api.OK {
			t.Fatalf("Select(%d) of %v: %d, %v", k, l, got, e)
		}
	}
	for _, v := range []bool{false, true} {
		// next is the index behind i with the bit, or len(l).
		next := len(l)
		for i := len(l); i >= 0; i-- {
			if i < len(l) && l[i] == v {
				next = i
			}
			got, e := f.Next(i, v)
			if next < len(l) && (got != next || e != api.OK) || next == len(l) && (got != 0 || e != api.ErrNone) {
				t.Fatalf("Next(%d, %v) of %v: %d, %v", i, v, l, got, e)
			}
		}
	}
	want, _ := spans.Of(set)
	if got := f.Spans(); !slices.Equal(got, want) || cap(got) != len(got) {
		t.Fatalf("Spans of %v: %v of the capacity %d", l, got, cap(got))
	}
	same(t, f, l)
}

// P4.3, P4.4, P4.6: all short lists, and long ones with few and many bits.
func TestLookUp(t *testing.T) {
	each(8, func(l []bool) { lookUp(t, l) })
	r := rand.New(rand.NewSource(3))
	for _, n := range lengths() {
		for _, each := range []int{1, 2, 9, 300} {
			l := mixed(r, n, each)
			lookUp(t, l)
			for i, v := range l {
				l[i] = !v
			}
			lookUp(t, l)
		}
		l := make([]bool, n)
		for i := range l {
			l[i] = i%2 == 0
		}
		lookUp(t, l)
	}
}

// P4.3, P4.4: what there is not.
func TestNone(t *testing.T) {
	r := rand.New(rand.NewSource(4))
	for _, n := range lengths() {
		l := mixed(r, n, 2)
		f, ones := of(t, l), len(places(l))
		for _, k := range append(far(), ones, ones+1, n+1, api.MaxList) {
			if i, e := f.Select(k); i != 0 || e != api.ErrNone {
				t.Errorf("Select(%d) of %d: %d, %v", k, ones, i, e)
			}
		}
		for _, i := range append(far(), n+1, n+64, api.MaxList+1) {
			if k, e := f.Rank(i); k != 0 || e != api.ErrRange {
				t.Errorf("Rank(%d) of %d: %d, %v", i, n, k, e)
			}
			for _, v := range []bool{false, true} {
				if k, e := f.Next(i, v); k != 0 || e != api.ErrRange {
					t.Errorf("Next(%d, %v) of %d: %d, %v", i, v, n, k, e)
				}
			}
		}
	}
}

// P4.5: all changes of all short lists.
func TestChanges(t *testing.T) {
	each(6, func(l []bool) {
		size := len(l)
		f := of(t, l)
		for at := range size + 1 {
			for n := range 4 {
				for _, v := range []bool{false, true} {
					c := f.Copy()
					if e := c.Insert(at, n, v); e != api.OK {
						t.Fatal(e)
					}
					same(t, c, inserted(l, at, n, v))
				}
			}
			for n := range size - at + 1 {
				c := f.Copy()
				if e := c.Remove(at, n); e != api.OK {
					t.Fatal(e)
				}
				same(t, c, removed(l, at, n))
				for to := range size - n + 1 {
					c := f.Copy()
					if e := c.Move(at, n, to); e != api.OK {
						t.Fatal(e)
					}
					same(t, c, moved(l, at, n, to))
				}
			}
		}
	})
}

// P4.5: long lists, with parts of whole words and of others.
func TestLongChanges(t *testing.T) {
	r := rand.New(rand.NewSource(5))
	pick := func(most int) int {
		x := r.Intn(most + 1)
		if r.Intn(2) == 0 {
			x = x / 64 * 64
		}
		return x
	}
	for _, n := range lengths() {
		l := mixed(r, n, 2)
		f := of(t, l)
		for range 150 {
			at := pick(len(l))
			part := pick(len(l) - at)
			switch r.Intn(3) {
			case 0:
				part, v := pick(api.MaxList-len(l)), r.Intn(2) == 0
				if e := f.Insert(at, part, v); e != api.OK {
					t.Fatal(e)
				}
				l = inserted(l, at, part, v)
			case 1:
				part /= 2
				if e := f.Remove(at, part); e != api.OK {
					t.Fatal(e)
				}
				l = removed(l, at, part)
			default:
				to := pick(len(l) - part)
				if e := f.Move(at, part, to); e != api.OK {
					t.Fatal(e)
				}
				l = moved(l, at, part, to)
			}
			same(t, f, l)
		}
	}
}

// P4.5: a full list, and one that becomes full.
func TestFull(t *testing.T) {
	f := of(t, nil)
	if e := f.Insert(0, api.MaxList, true); e != api.OK || f.Count() != api.MaxList {
		t.Fatalf("Insert of all: %v, Count %d", e, f.Count())
	}
	for _, at := range []int{0, 1, 64, api.MaxList} {
		if e := f.Insert(at, 1, false); e != api.ErrLimit {
			t.Errorf("Insert(%d, 1): %v", at, e)
		}
		if e := f.Insert(at, 0, false); e != api.OK {
			t.Errorf("Insert(%d, 0): %v", at, e)
		}
	}
	if e := f.Remove(0, api.MaxList); e != api.OK || f.Len() != 0 {
		t.Fatalf("Remove of all: %v, Len %d", e, f.Len())
	}
	same(t, f, nil)
}

// P4.5: errors, in their order, change nothing.
func TestChangeErrors(t *testing.T) {
	for _, n := range []int{0, 1, 5, 64, 100, api.MaxList} {
		l := mixed(rand.New(rand.NewSource(6)), n, 2)
		f := of(t, l)
		check := func(what string, got, want api.Errno) {
			t.Helper()
			if got != want {
				t.Errorf("%s, %d bits: %v, want %v", what, n, got, want)
			}
			same(t, f, l)
		}
		for _, x := range append(far(), n+1, n+64) {
			check("Insert at", f.Insert(x, 0, true), api.ErrRange)
			check("Insert of too many at", f.Insert(x, math.MaxInt, true), api.ErrRange)
			check("Remove at", f.Remove(x, 0), api.ErrRange)
			check("Remove all of", f.Remove(x, x), api.ErrRange)
			check("Remove of", f.Remove(0, x), api.ErrRange)
			check("Remove at the end of", f.Remove(n, x), api.ErrRange)
			check("Move at", f.Move(x, 0, 0), api.ErrRange)
			check("Move of", f.Move(0, x, 0), api.ErrRange)
			check("Move to", f.Move(0, 0, x), api.ErrRange)
			check("Move all to", f.Move(0, n, x), api.ErrRange)
			if x < 0 {
				check("Insert of", f.Insert(0, x, true), api.ErrRange)
			}
		}
		check("Move all behind", f.Move(0, n, 1), api.ErrRange)
		for _, x := range []int{api.MaxList - n + 1, api.MaxList + 1, math.MaxInt, math.MaxInt - n} {
			check("Insert of", f.Insert(n, x, true), api.ErrLimit)
		}
	}
}

// P4.7: Rank and Select.
func TestRankOfSelect(t *testing.T) {
	l := mixed(rand.New(rand.NewSource(7)), 300, 3)
	f := of(t, l)
	for k := range f.Count() {
		i, _ := f.Select(k)
		if n, e := f.Rank(i); n != k || e != api.OK {
			t.Errorf("Rank of Select(%d): %d, %v", k, n, e)
		}
	}
	for _, i := range places(l) {
		k, _ := f.Rank(i)
		if n, e := f.Select(k); n != i || e != api.OK {
			t.Errorf("Select of Rank(%d): %d, %v", i, n, e)
		}
	}
	if n, e := f.Rank(f.Len()); n != f.Count() || e != api.OK {
		t.Errorf("Rank(Len): %d, %v", n, e)
	}
}

// P4.7: insertions and removals put the places where spans does.
func TestAsSpans(t *testing.T) {
	r := rand.New(rand.NewSource(8))
	for range 300 {
		l := mixed(r, r.Intn(200), 3)
		f := of(t, l)
		at := r.Intn(len(l) + 1)
		n := r.Intn(100)
		want, e := spans.Insert(f.Spans(), at, n)
		if e != api.OK {
			t.Fatal(e)
		}
		c := f.Copy()
		c.Insert(at, n, false)
		if got := c.Spans(); !slices.Equal(got, want) {
			t.Fatalf("Insert(%d, %d): %v, want %v", at, n, got, want)
		}
		n = r.Intn(len(l) - at + 1)
		want, e = spans.Remove(f.Spans(), at, n)
		if e != api.OK {
			t.Fatal(e)
		}
		c = f.Copy()
		c.Remove(at, n)
		if got := c.Spans(); !slices.Equal(got, want) {
			t.Fatalf("Remove(%d, %d): %v, want %v", at, n, got, want)
		}
	}
}

// P4.6: each result is new memory.
func TestSpansMemory(t *testing.T) {
	l := read("0110011")
	f := of(t, l)
	a, b := f.Spans(), f.Spans()
	clear(a)
	if !slices.Equal(b, []spans.Span{{From: 1, To: 3}, {From: 5, To: 7}}) || !slices.Equal(f.Spans(), b) {
		t.Errorf("%v, %v", b, f.Spans())
	}
	same(t, f, l)
}

// The examples of the chapter.
func TestExamples(t *testing.T) {
	f := of(t, read("01101"))
	type answer struct {
		n int
		e api.Errno
	}
	ask := func(n int, e api.Errno) answer { return answer{n, e} }
	got := []answer{
		ask(f.Count(), api.OK), ask(f.Rank(2)), ask(f.Rank(5)), ask(f.Select(0)), ask(f.Select(2)), ask(f.Select(3)),
		ask(f.Next(0, true)), ask(f.Next(3, true)), ask(f.Next(1, false)), ask(f.Next(5, false)),
	}
	want := []answer{
		{3, api.OK}, {1, api.OK}, {3, api.OK}, {1, api.OK}, {4, api.OK}, {0, api.ErrNone},
		{1, api.OK}, {4, api.OK}, {3, api.OK}, {0, api.ErrNone},
	}
	if !slices.Equal(got, want) {
		t.Errorf("%v, want %v", got, want)
	}
	c := f.Copy()
	c.Insert(1, 2, true)
	same(t, c, read("0111101"))
	c.Remove(0, 4)
	same(t, c, read("101"))
	c = f.Copy()
	c.Move(1, 2, 3)
	same(t, c, read("00111"))
	if l := c.Spans(); !slices.Equal(l, []spans.Span{{From: 2, To: 5}}) {
		t.Errorf("Spans: %v", l)
	}
	_, low := flags.New(-1)
	_, high := flags.New(4097)
	_, get := f.Get(5)
	if low != api.ErrRange || high != api.ErrLimit || get != api.ErrRange {
		t.Errorf("%v, %v, %v", low, high, get)
	}
}
