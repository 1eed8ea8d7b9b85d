package remaps_test

import (
	"math"
	"math/rand"
	"slices"
	"testing"

	"paternoster/api"
	"paternoster/remaps"
)

// mapOf makes a map.
func mapOf(old int, from ...int) remaps.Map { return remaps.Map{Old: old, From: from} }

// equal tells whether two maps are equal; nil and empty lists are.
func equal(a, b remaps.Map) bool { return a.Old == b.Old && slices.Equal(a.From, b.From) }

// clone returns a map that shares no memory with a map.
func clone(m remaps.Map) remaps.Map { return remaps.Map{Old: m.Old, From: slices.Clone(m.From)} }

// isZero tells whether a map is what there is beside an error.
func isZero(m remaps.Map) bool { return m.Old == 0 && len(m.From) == 0 }

// count returns n numbers from the first one on.
func count(first, n int) []int {
	out := make([]int, n)
	for i := range out {
		out[i] = first + i
	}
	return out
}

// fill returns n times the same number.
func fill(n, x int) []int {
	out := make([]int, n)
	for i := range out {
		out[i] = x
	}
	return out
}

// lists calls do with all lists of n of some numbers.
func lists(n int, of []int, do func(l []int)) {
	l := make([]int, n)
	var set func(i int)
	set = func(i int) {
		if i == n {
			do(slices.Clone(l))
			return
		}
		for _, x := range of {
			l[i] = x
			set(i + 1)
		}
	}
	set(0)
}

// valid tells whether no index before is there twice.
func valid(from []int) bool {
	for i, x := range from {
		if x >= 0 && slices.Contains(from[:i], x) {
			return false
		}
	}
	return true
}

// mapsTo returns all valid maps from a list of old elements to one of now elements.
func mapsTo(old, now int) []remaps.Map {
	var out []remaps.Map
	lists(now, count(-1, old+1), func(from []int) {
		if valid(from) {
			out = append(out, mapOf(old, from...))
		}
	})
	return out
}

// mapsFrom returns all valid maps from a list of old elements to a list of at most
// the same number.
func mapsFrom(old, most int) []remaps.Map {
	var out []remaps.Map
	for now := range most + 1 {
		out = append(out, mapsTo(old, now)...)
	}
	return out
}

// shuffled returns a map in which about a part of the elements persist, in any order.
func shuffled(r *rand.Rand, old, now, part int) remaps.Map {
	from := fill(now, -1)
	places := r.Perm(now)
	for k, x := range r.Perm(old) {
		if k < now && r.Intn(100) < part {
			from[places[k]] = x
		}
	}
	return mapOf(old, from...)
}

// newMemory tells whether a result has no spare capacity, and shares no memory with
// an argument.
func newMemory[E any](out []E, args ...[]E) bool {
	for _, arg := range args {
		if len(out) > 0 && len(arg) > 0 && &out[0] == &arg[0] {
			return false
		}
	}
	return cap(out) == len(out)
}

// carry is Carry of a list that may be, with a look at its memory.
func carry[T comparable](t *testing.T, m remaps.Map, l []T) []T {
	t.Helper()
	arg, list := clone(m), slices.Clone(l)
	out, e := remaps.Carry(arg, list)
	if e != api.OK || !equal(arg, m) || !slices.Equal(list, l) || !newMemory(out, list) {
		t.Fatalf("Carry(%v, %v) = %v, %v, capacity %d; the arguments are %v, %v", m, l, out, e, cap(out), arg, list)
	}
	return out
}

// compose is Compose of two maps that may be, with a look at its memory.
func compose(t *testing.T, a, b remaps.Map) remaps.Map {
	t.Helper()
	first, second := clone(a), clone(b)
	out, e := remaps.Compose(first, second)
	if e != api.OK || !equal(first, a) || !equal(second, b) || !newMemory(out.From, first.From, second.From) {
		t.Fatalf("Compose(%v, %v) = %v, %v, capacity %d; the maps are %v, %v", a, b, out, e, cap(out.From), first, second)
	}
	if e := remaps.Check(out); e != api.OK {
		t.Fatalf("Compose(%v, %v) = %v: %v", a, b, out, e)
	}
	return out
}

// invert is Invert of a map that may be, with a look at its memory.
func invert(t *testing.T, m remaps.Map) remaps.Map {
	t.Helper()
	arg := clone(m)
	out, e := remaps.Invert(arg)
	if e != api.OK || !equal(arg, m) || !newMemory(out.From, arg.From) {
		t.Fatalf("Invert(%v) = %v, %v, capacity %d; the map is %v", m, out, e, cap(out.From), arg)
	}
	if e := remaps.Check(out); e != api.OK {
		t.Fatalf("Invert(%v) = %v: %v", m, out, e)
	}
	return out
}

// want looks at a map that comes of a call.
func want(t *testing.T, what string, m remaps.Map, e api.Errno, old int, from []int) {
	t.Helper()
	if e != api.OK || !equal(m, mapOf(old, from...)) || !newMemory(m.From) {
		t.Fatalf("%s: %v, %v, capacity %d, want %d: %v", what, m, e, cap(m.From), old, from)
	}
	if e := remaps.Check(m); e != api.OK {
		t.Fatalf("%s: %v is no map: %v", what, m, e)
	}
}

// refused looks at a call that returns an error.
func refused(t *testing.T, what string, m remaps.Map, e, wanted api.Errno) {
	t.Helper()
	if e != wanted || !isZero(m) {
		t.Fatalf("%s: %v, %v, want %v", what, m, e, wanted)
	}
}

// plainCheck is the error of a map that is not too long.
func plainCheck(m remaps.Map) api.Errno {
	if m.Old < 0 {
		return api.ErrArg
	}
	for i, x := range m.From {
		if x < -1 || x > m.Old-1 {
			return api.ErrRange
		}
		if x != -1 && slices.Contains(m.From[:i], x) {
			return api.ErrTwice
		}
	}
	return api.OK
}

// P9.1: all short maps, among them those with several errors.
func TestCheckShort(t *testing.T) {
	for old := -2; old <= 3; old++ {
		for n := range 5 {
			lists(n, []int{-2, -1, 0, 1, 2, 3, math.MinInt, math.MaxInt}, func(from []int) {
				m := mapOf(old, from...)
				arg := clone(m)
				if e := remaps.Check(arg); e != plainCheck(m) || !equal(arg, m) {
					t.Fatalf("Check(%v) = %v, want %v", m, e, plainCheck(m))
				}
			})
		}
	}
	if e := remaps.Check(remaps.Map{}); e != api.OK {
		t.Error("the zero map:", e)
	}
}

// P9.1: the limits, which are behind a negative Old and ahead of what is wrong
// with the elements.
func TestCheckLimit(t *testing.T) {
	const most = api.MaxList
	for i, c := range []struct {
		m    remaps.Map
		want api.Errno
	}{
		{mapOf(most, count(0, most)...), api.OK},
		{mapOf(most), api.OK},
		{mapOf(0, fill(most, -1)...), api.OK},
		{mapOf(most, fill(most, -1)...), api.OK},
		{mapOf(most+1, 0), api.ErrLimit},
		{mapOf(math.MaxInt), api.ErrLimit},
		{mapOf(most+1, -2), api.ErrLimit},
		{mapOf(0, fill(most+1, -1)...), api.ErrLimit},
		{mapOf(most, count(0, most+1)...), api.ErrLimit},
		{mapOf(most, fill(most+1, 0)...), api.ErrLimit},
		{mapOf(-1, fill(most+1, -2)...), api.ErrArg},
		{mapOf(-1), api.ErrArg},
		{mapOf(math.MinInt, 0), api.ErrArg},
		{mapOf(most, most-1), api.OK},
		{mapOf(most, most), api.ErrRange},
		{mapOf(most, append(count(1, most-1), 1)...), api.ErrTwice},
		{mapOf(most, append(count(1, most-1), most-1)...), api.ErrTwice},
		{mapOf(most, append(count(1, most-1), 0)...), api.OK},
		{mapOf(most, append(count(0, most-1), -2)...), api.ErrRange},
	} {
		if e := remaps.Check(c.m); e != c.want {
			t.Errorf("%d: %v, want %v", i, e, c.want)
		}
	}
}

// P9.2: Same, with its errors.
func TestSame(t *testing.T) {
	for _, n := range []int{0, 1, 2, 7, 100, api.MaxList - 1, api.MaxList} {
		m, e := remaps.Same(n)
		want(t, "Same", m, e, n, count(0, n))
	}
	for _, n := range []int{-1, -5, api.MaxList + 1, math.MinInt, math.MaxInt} {
		m, e := remaps.Same(n)
		refused(t, "Same", m, e, api.ErrRange)
	}
}

// P9.2: all changes of short lists, and those that may not be, beside what becomes
// of the numbers of a list.
func TestChangesShort(t *testing.T) {
	for n := -2; n <= 6; n++ {
		for at := -2; at <= 8; at++ {
			for many := -2; many <= 8; many++ {
				inserted(t, n, at, many)
				removed(t, n, at, many)
				for to := -2; to <= 8; to++ {
					moved(t, n, at, many, to)
				}
			}
		}
	}
}

// inserted looks at an insertion into a list that is short enough.
func inserted(t *testing.T, n, at, many int) {
	t.Helper()
	m, e := remaps.Inserted(n, at, many)
	if n < 0 || at < 0 || at > n || many < 0 {
		refused(t, "Inserted", m, e, api.ErrRange)
		return
	}
	want(t, "Inserted", m, e, n, slices.Insert(count(0, n), at, fill(many, -1)...))
}

// removed looks at a removal.
func removed(t *testing.T, n, at, many int) {
	t.Helper()
	m, e := remaps.Removed(n, at, many)
	if n < 0 || at < 0 || many < 0 || at+many > n {
		refused(t, "Removed", m, e, api.ErrRange)
		return
	}
	want(t, "Removed", m, e, n, slices.Delete(count(0, n), at, at+many))
}

// moved looks at a move.
func moved(t *testing.T, n, at, many, to int) {
	t.Helper()
	m, e := remaps.Moved(n, at, many, to)
	if n < 0 || at < 0 || many < 0 || at+many > n || to < 0 || to > n-many {
		refused(t, "Moved", m, e, api.ErrRange)
		return
	}
	others := slices.Delete(count(0, n), at, at+many)
	want(t, "Moved", m, e, n, slices.Insert(others, to, count(at, many)...))
}

// P9.2: long lists, at the limit too.
func TestChangesLong(t *testing.T) {
	r := rand.New(rand.NewSource(92))
	for range 200 {
		n := r.Intn(api.MaxList + 1)
		at := r.Intn(n + 1)
		many := r.Intn(n - at + 1)
		inserted(t, n, at, r.Intn(api.MaxList-n+1))
		removed(t, n, at, many)
		moved(t, n, at, many, r.Intn(n-many+1))
	}
	const most = api.MaxList
	for _, at := range []int{0, 1, most / 2, most - 1, most} {
		inserted(t, most, at, 0)
		inserted(t, most-1, min(at, most-1), 1)
		removed(t, most, at, most-at)
		removed(t, most, 0, at)
		moved(t, most, at, most-at, 0)
		moved(t, most, 0, at, most-at)
	}
	inserted(t, 0, 0, most)
}

// P9.2: numbers whose sums and differences are too great for an int, and what
// comes ahead of the limit.
func TestChangesLimit(t *testing.T) {
	const most = api.MaxList
	for _, c := range []struct {
		n, at, many int
		want        api.Errno
	}{
		{most, 0, 1, api.ErrLimit},
		{most, most, 1, api.ErrLimit},
		{0, 0, most + 1, api.ErrLimit},
		{1, 1, most, api.ErrLimit},
		{5, 2, math.MaxInt, api.ErrLimit},
		{5, 6, math.MaxInt, api.ErrRange},
		{5, -1, most, api.ErrRange},
		{5, 2, -1, api.ErrRange},
		{5, 2, math.MinInt, api.ErrRange},
		{5, math.MaxInt, 1, api.ErrRange},
		{5, math.MinInt, math.MaxInt, api.ErrRange},
		{most + 1, 0, 0, api.ErrRange},
		{most + 1, 0, 1, api.ErrRange},
		{math.MaxInt, 0, math.MaxInt, api.ErrRange},
		{math.MinInt, 0, 0, api.ErrRange},
	} {
		m, e := remaps.Inserted(c.n, c.at, c.many)
		refused(t, "Inserted", m, e, c.want)
	}
	ends := []int{math.MinInt, math.MinInt + 1, -1, 0, 1, most, most + 1, math.MaxInt - 1, math.MaxInt}
	allowed := func(n, at, many int) bool {
		return n >= 0 && n <= most && at >= 0 && at <= most && many >= 0 && many <= most && at+many <= n
	}
	lists(3, ends, func(l []int) {
		n, at, many := l[0], l[1], l[2]
		if m, e := remaps.Removed(n, at, many); allowed(n, at, many) {
			want(t, "Removed", m, e, n, slices.Delete(count(0, n), at, at+many))
		} else {
			refused(t, "Removed", m, e, api.ErrRange)
		}
		for _, to := range ends {
			if m, e := remaps.Moved(n, at, many, to); !allowed(n, at, many) || to < 0 || to > n-many {
				refused(t, "Moved", m, e, api.ErrRange)
			} else {
				moved(t, n, at, many, to)
			}
		}
	})
}

// plainCompose is the map of two, by the definition.
func plainCompose(a, b remaps.Map) remaps.Map {
	from := fill(len(b.From), -1)
	for i, x := range b.From {
		if x != -1 {
			from[i] = a.From[x]
		}
	}
	return mapOf(a.Old, from...)
}

// letters returns a list of n different texts that are not empty.
func letters(n int) []string {
	out := make([]string, n)
	for i := range out {
		out[i] = string(rune('a'+i%26)) + string(rune('a'+i/26%26)) + string(rune('a'+i/676))
	}
	return out
}

// P9.3, P9.7: all short maps one after another; Carry of both is Carry of the map
// of two.
func TestComposeShort(t *testing.T) {
	for old := range 4 {
		for _, a := range mapsFrom(old, 3) {
			for _, b := range mapsFrom(len(a.From), 3) {
				got := compose(t, a, b)
				if want := plainCompose(a, b); !equal(got, want) {
					t.Fatalf("Compose(%v, %v) = %v, want %v", a, b, got, want)
				}
				l := letters(old)
				once, twice := carry(t, got, l), carry(t, b, carry(t, a, l))
				if !slices.Equal(once, twice) {
					t.Fatalf("Carry by %v of two, %v and %v: %v, one after another %v", got, a, b, once, twice)
				}
			}
		}
	}
}

// P9.7: Compose is associative, and Same is neutral.
func TestComposeLaws(t *testing.T) {
	for old := range 4 {
		for _, a := range mapsFrom(old, 2) {
			for _, b := range mapsFrom(len(a.From), 3) {
				ab := compose(t, a, b)
				for _, c := range mapsFrom(len(b.From), 2) {
					left, right := compose(t, ab, c), compose(t, a, compose(t, b, c))
					if !equal(left, right) {
						t.Fatalf("%v, %v, %v: %v and %v", a, b, c, left, right)
					}
				}
			}
		}
		for _, m := range mapsFrom(old, 4) {
			ahead, _ := remaps.Same(m.Old)
			behind, _ := remaps.Same(len(m.From))
			if x, y := compose(t, ahead, m), compose(t, m, behind); !equal(x, m) || !equal(y, m) {
				t.Fatalf("Same ahead of %v, and behind it: %v, %v", m, x, y)
			}
		}
	}
}

// P9.3, P9.7: long maps, and runs of changes beside a list that is changed itself.
func TestComposeLong(t *testing.T) {
	r := rand.New(rand.NewSource(93))
	for range 60 {
		n := func() int { return r.Intn(300) }
		a := shuffled(r, n(), n(), 80)
		b := shuffled(r, len(a.From), n(), 60)
		c := shuffled(r, len(b.From), n(), 70)
		if got := compose(t, a, b); !equal(got, plainCompose(a, b)) {
			t.Fatalf("Compose(%v, %v) = %v", a, b, got)
		}
		if x, y := compose(t, compose(t, a, b), c), compose(t, a, compose(t, b, c)); !equal(x, y) {
			t.Fatalf("%v, %v, %v: %v and %v", a, b, c, x, y)
		}
	}
	all, e := remaps.Same(50)
	l := count(0, 50)
	for i := 0; i < 300 && e == api.OK; i++ {
		var m remaps.Map
		n := len(l)
		at := r.Intn(n + 1)
		many := r.Intn(min(n-at, 5) + 1)
		switch r.Intn(3) {
		case 0:
			m, e = remaps.Inserted(n, at, many)
			l = slices.Insert(l, at, fill(many, -1)...)
		case 1:
			m, e = remaps.Removed(n, at, many)
			l = slices.Delete(l, at, at+many)
		case 2:
			to := r.Intn(n - many + 1)
			m, e = remaps.Moved(n, at, many, to)
			part := slices.Clone(l[at : at+many])
			l = slices.Insert(slices.Delete(l, at, at+many), to, part...)
		}
		all = compose(t, all, m)
		if e != api.OK || !equal(all, mapOf(50, l...)) {
			t.Fatalf("after %d changes: %v, %v, want %v", i+1, all, e, l)
		}
	}
}

// wrong contains maps with an error each.
func wrong() []remaps.Map {
	return []remaps.Map{
		mapOf(-1), mapOf(api.MaxList + 1), mapOf(0, fill(api.MaxList+1, -1)...),
		mapOf(2, 2), mapOf(2, -2), mapOf(2, 0, 0),
	}
}

// P9.3: errors of the first map, then of the second one, then of both.
func TestComposeErrors(t *testing.T) {
	fine := mapOf(2, 1, -1, 0)
	for _, a := range wrong() {
		for _, b := range append(wrong(), fine, mapOf(len(a.From))) {
			m, e := remaps.Compose(a, b)
			refused(t, "Compose", m, e, remaps.Check(a))
		}
		m, e := remaps.Compose(fine, a)
		refused(t, "Compose", m, e, remaps.Check(a))
	}
	for _, b := range []remaps.Map{mapOf(2), mapOf(2, 0, 1), mapOf(4, 0), mapOf(0), {}} {
		m, e := remaps.Compose(fine, b)
		refused(t, "Compose", m, e, api.ErrOrder)
	}
	m, e := remaps.Compose(remaps.Map{}, remaps.Map{})
	want(t, "Compose of two empty maps", m, e, 0, nil)
}

// P9.3: maps at the limit.
func TestComposeLimit(t *testing.T) {
	r := rand.New(rand.NewSource(931))
	a, b := shuffled(r, api.MaxList, api.MaxList, 100), shuffled(r, api.MaxList, api.MaxList, 50)
	if got := compose(t, a, b); !equal(got, plainCompose(a, b)) {
		t.Error("two maps at the limit")
	}
	if got := compose(t, mapOf(api.MaxList), mapOf(0, fill(api.MaxList, -1)...)); !equal(got, mapOf(api.MaxList, fill(api.MaxList, -1)...)) {
		t.Error("all gone, then all new:", got)
	}
}

// plainBack is the index now of an index before, -1 if it is gone.
func plainBack(m remaps.Map, old int) int { return slices.Index(m.From, old) }

// back looks at Invert, At and Gone of a map.
func back(t *testing.T, m remaps.Map) {
	t.Helper()
	var inverse, gone []int
	for old := range m.Old {
		now := plainBack(m, old)
		inverse = append(inverse, now)
		if now == -1 {
			gone = append(gone, old)
		}
	}
	if got := invert(t, m); !equal(got, mapOf(len(m.From), inverse...)) {
		t.Fatalf("Invert(%v) = %v, want %v", m, got, inverse)
	}
	arg := clone(m)
	if got, e := remaps.Gone(arg); e != api.OK || !slices.Equal(got, gone) || !newMemory(got, arg.From) || !equal(arg, m) {
		t.Fatalf("Gone(%v) = %v, %v, capacity %d, want %v", m, got, e, cap(got), gone)
	}
	for old, now := range inverse {
		wanted, errno := now, api.OK
		if now == -1 {
			wanted, errno = 0, api.ErrNone
		}
		if got, e := remaps.At(arg, old); got != wanted || e != errno || !equal(arg, m) {
			t.Fatalf("At(%v, %d) = %d, %v, want %d, %v", m, old, got, e, wanted, errno)
		}
	}
	for _, old := range []int{-2, -1, m.Old, m.Old + 1, math.MinInt, math.MaxInt} {
		if got, e := remaps.At(m, old); got != 0 || e != api.ErrRange {
			t.Fatalf("At(%v, %d) = %d, %v", m, old, got, e)
		}
	}
}

// P9.4, P9.5: all short maps.
func TestBackShort(t *testing.T) {
	for old := range 5 {
		for _, m := range mapsFrom(old, 4) {
			back(t, m)
		}
	}
}

// P9.4, P9.5: long maps, at the limit too.
func TestBackLong(t *testing.T) {
	r := rand.New(rand.NewSource(94))
	for _, part := range []int{0, 5, 50, 95, 100} {
		for range 10 {
			back(t, shuffled(r, r.Intn(150), r.Intn(150), part))
		}
	}
	for _, m := range []remaps.Map{
		mapOf(api.MaxList, count(0, api.MaxList)...),
		shuffled(r, api.MaxList, api.MaxList, 60),
		mapOf(api.MaxList),
		mapOf(0, fill(api.MaxList, -1)...),
		mapOf(api.MaxList, fill(api.MaxList, -1)...),
	} {
		back(t, m)
	}
}

// P9.7: inverting twice is the map, if nothing is gone and nothing is new, and then
// the map and its inverse are Same together.
func TestInvertTwice(t *testing.T) {
	for old := range 5 {
		for _, m := range mapsFrom(old, 4) {
			gone, e := remaps.Gone(m)
			if e != api.OK || len(gone) > 0 || slices.Contains(m.From, -1) {
				continue
			}
			inverse := invert(t, m)
			if got := invert(t, inverse); !equal(got, m) {
				t.Fatalf("inverting %v twice: %v", m, got)
			}
			same, _ := remaps.Same(old)
			if x, y := compose(t, m, inverse), compose(t, inverse, m); !equal(x, same) || !equal(y, same) {
				t.Fatalf("%v with its inverse: %v, %v", m, x, y)
			}
		}
	}
}

// P9.7: a move and its inverse are Same together.
func TestMovedBack(t *testing.T) {
	for n := range 8 {
		same, _ := remaps.Same(n)
		for at := range n + 1 {
			for many := range n - at + 1 {
				for to := range n - many + 1 {
					a, e := remaps.Moved(n, at, many, to)
					b, f := remaps.Moved(n, to, many, at)
					if e != api.OK || f != api.OK || !equal(compose(t, a, b), same) {
						t.Fatalf("%d: %d from %d to %d, and back: %v, %v", n, many, at, to, a, b)
					}
					if got := invert(t, a); !equal(got, b) {
						t.Fatalf("%d: %d from %d to %d: the inverse is %v, want %v", n, many, at, to, got, b)
					}
				}
			}
		}
	}
}

// P9.4, P9.5: the errors of Check come first.
func TestBackErrors(t *testing.T) {
	for _, m := range wrong() {
		wanted := remaps.Check(m)
		out, e := remaps.Invert(m)
		refused(t, "Invert", out, e, wanted)
		if gone, e := remaps.Gone(m); len(gone) != 0 || e != wanted {
			t.Errorf("Gone: %v, %v, want %v", gone, e, wanted)
		}
		for _, old := range []int{-1, 0, 1, 2, math.MaxInt} {
			if now, e := remaps.At(m, old); now != 0 || e != wanted {
				t.Errorf("At %d: %d, %v, want %v", old, now, e, wanted)
			}
		}
	}
}

// pair is an element with two fields.
type pair struct {
	name string
	n    int
}

// P9.6: lists of texts, numbers, structs and pointers.
func TestCarryShort(t *testing.T) {
	for old := range 4 {
		texts := letters(old)
		pairs, pointers := make([]pair, old), make([]*pair, old)
		for i, s := range texts {
			pairs[i] = pair{name: s, n: i + 1}
			pointers[i] = &pairs[i]
		}
		for _, m := range mapsFrom(old, 4) {
			a, b, c := carry(t, m, texts), carry(t, m, pairs), carry(t, m, pointers)
			d := carry(t, m, count(1, old))
			if n := len(m.From); len(a) != n || len(b) != n || len(c) != n || len(d) != n {
				t.Fatalf("Carry by %v: %v, %v, %v, %v", m, a, b, c, d)
			}
			// Elements without a size may all be at one address.
			if got, e := remaps.Carry(m, make([]struct{}, old)); len(got) != len(m.From) || e != api.OK {
				t.Fatalf("Carry by %v: %d elements without a size, %v", m, len(got), e)
			}
			for i, x := range m.From {
				switch {
				case x == -1 && (a[i] != "" || b[i] != pair{} || c[i] != nil || d[i] != 0),
					x != -1 && (a[i] != texts[x] || b[i] != pairs[x] || c[i] != pointers[x] || d[i] != x+1):
					t.Fatalf("Carry by %v: %v, %v, %v, %v", m, a, b, c, d)
				}
			}
		}
	}
}

// P9.6: lists at the limit, and what the changes do to a list.
func TestCarryLong(t *testing.T) {
	r := rand.New(rand.NewSource(96))
	l := letters(api.MaxList)
	m := shuffled(r, api.MaxList, api.MaxList, 70)
	for i, s := range carry(t, m, l) {
		if x := m.From[i]; x == -1 && s != "" || x != -1 && s != l[x] {
			t.Fatalf("at %d: %q", i, s)
		}
	}
	for range 50 {
		n := r.Intn(200)
		at := r.Intn(n + 1)
		many := r.Intn(n - at + 1)
		to := r.Intn(n - many + 1)
		in, e := remaps.Inserted(n, at, many)
		out, f := remaps.Removed(n, at, many)
		over, g := remaps.Moved(n, at, many, to)
		if e != api.OK || f != api.OK || g != api.OK {
			t.Fatal(n, at, many, to, e, f, g)
		}
		some := l[:n]
		if got := carry(t, in, some); !slices.Equal(got, slices.Insert(slices.Clone(some), at, make([]string, many)...)) {
			t.Fatalf("%d inserted at %d of %d: %v", many, at, n, got)
		}
		others := slices.Delete(slices.Clone(some), at, at+many)
		if got := carry(t, out, some); !slices.Equal(got, others) {
			t.Fatalf("%d removed at %d of %d: %v", many, at, n, got)
		}
		if got := carry(t, over, some); !slices.Equal(got, slices.Insert(others, to, some[at:at+many]...)) {
			t.Fatalf("%d moved from %d to %d of %d: %v", many, at, to, n, got)
		}
	}
}

// P9.6: the errors of Check, then that of the list.
func TestCarryErrors(t *testing.T) {
	for _, m := range wrong() {
		for n := range 4 {
			if out, e := remaps.Carry(m, letters(n)); len(out) != 0 || e != remaps.Check(m) {
				t.Errorf("%d texts: %v, %v, want %v", n, out, e, remaps.Check(m))
			}
		}
	}
	for n := range 5 {
		for _, m := range mapsFrom(2, 3) {
			out, e := remaps.Carry(m, letters(n))
			if n != 2 && (len(out) != 0 || e != api.ErrOrder) || n == 2 && e != api.OK {
				t.Errorf("Carry of %d texts by %v: %v, %v", n, m, out, e)
			}
		}
	}
	if out, e := remaps.Carry[string](remaps.Map{}, nil); len(out) != 0 || e != api.OK {
		t.Error("nothing:", out, e)
	}
	if out, e := remaps.Carry(mapOf(0, -1), []int(nil)); !slices.Equal(out, []int{0}) || e != api.OK {
		t.Error("a new element:", out, e)
	}
}

// P9.1 to P9.6: the chapter's examples.
func TestExamples(t *testing.T) {
	m, e := remaps.Inserted(3, 1, 2)
	want(t, "Inserted", m, e, 3, []int{0, -1, -1, 1, 2})
	out, e := remaps.Removed(5, 0, 2)
	want(t, "two of five removed", out, e, 5, []int{2, 3, 4})
	if got := compose(t, m, out); !equal(got, mapOf(3, -1, 1, 2)) {
		t.Error("Compose:", got)
	}
	m, e = remaps.Removed(4, 1, 2)
	want(t, "Removed", m, e, 4, []int{0, 3})
	if got := invert(t, m); !equal(got, mapOf(2, 0, -1, -1, 1)) {
		t.Error("Invert:", got)
	}
	if i, e := remaps.At(m, 3); i != 1 || e != api.OK {
		t.Error("At 3:", i, e)
	}
	if i, e := remaps.At(m, 1); i != 0 || e != api.ErrNone {
		t.Error("At 1:", i, e)
	}
	if l, e := remaps.Gone(m); !slices.Equal(l, []int{1, 2}) || e != api.OK {
		t.Error("Gone:", l, e)
	}
	m, e = remaps.Moved(4, 0, 1, 2)
	want(t, "Moved", m, e, 4, []int{1, 2, 0, 3})
	if got := carry(t, mapOf(3, 2, -1, 0), []string{"a", "b", "c"}); !slices.Equal(got, []string{"c", "", "a"}) {
		t.Error("Carry:", got)
	}
	if e := remaps.Check(mapOf(2, 0, 0)); e != api.ErrTwice {
		t.Error("0 twice:", e)
	}
	if e := remaps.Check(mapOf(2, 2)); e != api.ErrRange {
		t.Error("2 of two:", e)
	}
	m, e = remaps.Compose(mapOf(2, 0), mapOf(2, 0))
	refused(t, "Compose", m, e, api.ErrOrder)
}
