package rises_test

import (
	"math"
	"math/rand"
	"slices"
	"testing"

	"paternoster/api"
	"paternoster/rises"
)

// step makes a step.
func step(what, ahead int) rises.Step { return rises.Step{What: what, Ahead: ahead} }

// count returns n numbers from the first one on.
func count(first, n int) []int {
	out := make([]int, n)
	for i := range out {
		out[i] = first + i
	}
	return out
}

// back returns a list from its last number to its first one.
func back(l []int) []int {
	out := slices.Clone(l)
	slices.Reverse(out)
	return out
}

// lists calls do with all lists of n of some numbers.
func lists(n int, of []int, do func(l []int)) {
	l := make([]int, n)
	var fill func(i int)
	fill = func(i int) {
		if i == n {
			do(slices.Clone(l))
			return
		}
		for _, x := range of {
			l[i] = x
			fill(i + 1)
		}
	}
	fill(0)
}

// orders calls do with all orders of some numbers.
func orders(of []int, do func(l []int)) {
	var fill func(l, rest []int)
	fill = func(l, rest []int) {
		if len(rest) == 0 {
			do(slices.Clone(l))
			return
		}
		for i, x := range rest {
			fill(append(slices.Clone(l), x), slices.Delete(slices.Clone(rest), i, i+1))
		}
	}
	fill(nil, of)
}

// subsequences calls do with all rising subsequences of a list, as positions, in
// lexicographic order.
func subsequences(l []int, do func(at []int)) {
	var grow func(at []int, from int)
	grow = func(at []int, from int) {
		do(at)
		for i := from; i < len(l); i++ {
			if len(at) == 0 || l[at[len(at)-1]] < l[i] {
				grow(append(slices.Clone(at), i), i+1)
			}
		}
	}
	grow(nil, 0)
}

// firstLongest is the least longest rising subsequence by a look at all of them.
func firstLongest(l []int) []int {
	var out []int
	subsequences(l, func(at []int) {
		if len(at) > len(out) {
			out = at
		}
	})
	return out
}

// plainLongest is the same for long lists: of each position, by a look at all
// those behind it, the length and the position that is next.
func plainLongest(l []int) []int {
	length, next := make([]int, len(l)), make([]int, len(l))
	begin := len(l)
	for i := len(l) - 1; i >= 0; i-- {
		length[i], next[i] = 1, len(l)
		for j := len(l) - 1; j > i; j-- {
			if l[j] > l[i] && length[j]+1 >= length[i] {
				length[i], next[i] = length[j]+1, j
			}
		}
		if begin == len(l) || length[i] >= length[begin] {
			begin = i
		}
	}
	var out []int
	for i := begin; i < len(l); i = next[i] {
		out = append(out, i)
	}
	return out
}

// plainCarry carries out steps that are valid.
func plainCarry(l []int, steps []rises.Step) []int {
	out := slices.Clone(l)
	for _, s := range steps {
		at := slices.Index(out, s.What)
		out = slices.Delete(out, at, at+1)
		at = len(out)
		if s.Ahead != -1 {
			at = slices.Index(out, s.Ahead)
		}
		out = slices.Insert(out, at, s.What)
	}
	return out
}

// plainKept are the numbers that are kept, by the definition.
func plainKept(old, now []int) []int {
	var before, out []int
	for _, x := range now {
		before = append(before, slices.Index(old, x))
	}
	for _, i := range plainLongest(before) {
		out = append(out, now[i])
	}
	return out
}

// plainMoves are the moves, by the definition.
func plainMoves(old, now []int) []rises.Step {
	kept := plainKept(old, now)
	var out []rises.Step
	for i := len(now) - 1; i >= 0; i-- {
		if slices.Contains(kept, now[i]) {
			continue
		}
		ahead := -1
		if i+1 < len(now) {
			ahead = now[i+1]
		}
		out = append(out, step(now[i], ahead))
	}
	return out
}

// newMemory tells whether a result has no spare capacity, and shares no memory with an
// argument.
func newMemory[E any](out []E, args ...[]E) bool {
	for _, arg := range args {
		if len(out) > 0 && len(arg) > 0 && &out[0] == &arg[0] {
			return false
		}
	}
	return cap(out) == len(out)
}

// longest is Longest of a list that may be, with a look at its memory.
func longest(t *testing.T, l []int) []int {
	t.Helper()
	arg := slices.Clone(l)
	out, e := rises.Longest(arg)
	if e != api.OK || !slices.Equal(arg, l) || !newMemory(out, arg) {
		t.Fatalf("Longest(%v) = %v, %v, capacity %d; the list is %v", l, out, e, cap(out), arg)
	}
	return out
}

// carry is Carry of a list and steps that may be, with a look at its memory.
func carry(t *testing.T, l []int, steps []rises.Step) []int {
	t.Helper()
	arg, how := slices.Clone(l), slices.Clone(steps)
	out, e := rises.Carry(arg, how)
	if e != api.OK || !slices.Equal(arg, l) || !slices.Equal(how, steps) || !newMemory(out, arg) {
		t.Fatalf("Carry(%v, %v) = %v, %v, capacity %d; the list is %v, the steps are %v",
			l, steps, out, e, cap(out), arg, how)
	}
	return out
}

// change looks at Kept, Moves and Carry between two orders of the same numbers.
func change(t *testing.T, old, now []int) []rises.Step {
	t.Helper()
	from, to := slices.Clone(old), slices.Clone(now)
	kept, e := rises.Kept(from, to)
	if want := plainKept(old, now); e != api.OK || !slices.Equal(kept, want) || !newMemory(kept, from, to) {
		t.Fatalf("Kept(%v, %v) = %v, %v, want %v", old, now, kept, e, want)
	}
	steps, e := rises.Moves(from, to)
	if want := plainMoves(old, now); e != api.OK || !slices.Equal(steps, want) || !newMemory(steps) {
		t.Fatalf("Moves(%v, %v) = %v, %v, want %v", old, now, steps, e, want)
	}
	if !slices.Equal(from, old) || !slices.Equal(to, now) {
		t.Fatalf("Kept or Moves changed %v, %v to %v, %v", old, now, from, to)
	}
	if len(steps) != len(now)-len(kept) {
		t.Fatalf("from %v to %v: %d moves, %d kept", old, now, len(steps), len(kept))
	}
	if got := carry(t, old, steps); !slices.Equal(got, now) {
		t.Fatalf("the moves of %v to %v make it %v", old, now, got)
	}
	return steps
}

// P8.1: all short lists, with equal numbers and negative ones, beside all rising
// subsequences that they have.
func TestLongestShort(t *testing.T) {
	for n := range 7 {
		lists(n, []int{-3, 0, 1, 7}, func(l []int) {
			got, want := longest(t, l), firstLongest(l)
			if !slices.Equal(got, want) || !slices.Equal(got, plainLongest(l)) {
				t.Fatalf("Longest(%v) = %v, want %v, by pairs %v", l, got, want, plainLongest(l))
			}
		})
	}
	for n := range 8 {
		orders(count(-2, n), func(l []int) {
			got, want := longest(t, l), firstLongest(l)
			if !slices.Equal(got, want) || !slices.Equal(got, plainLongest(l)) {
				t.Fatalf("Longest(%v) = %v, want %v, by pairs %v", l, got, want, plainLongest(l))
			}
		})
	}
}

// P8.1: long lists of all kinds of numbers.
func TestLongestLong(t *testing.T) {
	r := rand.New(rand.NewSource(8))
	for n := 1; n <= 600; n += 1 + n/7 {
		for _, most := range []int{1, 2, 5, n, 10 * n} {
			l := make([]int, n)
			for i := range l {
				l[i] = r.Intn(most) - most/2
			}
			if got, want := longest(t, l), plainLongest(l); !slices.Equal(got, want) {
				t.Fatalf("Longest(%v) = %v, want %v", l, got, want)
			}
		}
	}
	ends := []int{math.MinInt, math.MaxInt, math.MinInt, -1, 0, math.MaxInt - 1, math.MaxInt, math.MaxInt}
	if got := longest(t, ends); !slices.Equal(got, []int{0, 3, 4, 5, 6}) {
		t.Errorf("Longest(%v) = %v", ends, got)
	}
}

// P8.1: the limit of the numbers.
func TestLongestLimit(t *testing.T) {
	up := count(-50, api.MaxList)
	if got := longest(t, up); !slices.Equal(got, count(0, api.MaxList)) {
		t.Error("a rising list at the limit:", got)
	}
	if got := longest(t, back(up)); !slices.Equal(got, []int{0}) {
		t.Error("a falling list at the limit:", got)
	}
	if got := longest(t, make([]int, api.MaxList)); !slices.Equal(got, []int{0}) {
		t.Error("a list of zeros at the limit:", got)
	}
	l := rand.New(rand.NewSource(81)).Perm(api.MaxList)
	if got := longest(t, l); !slices.Equal(got, plainLongest(l)) {
		t.Error("a list at the limit:", got)
	}
	for _, l := range [][]int{count(0, api.MaxList+1), make([]int, 2*api.MaxList)} {
		if out, e := rises.Longest(l); out != nil || e != api.ErrLimit {
			t.Errorf("%d numbers: %v, %v", len(l), out, e)
		}
	}
}

// plainCheck is the error of an order that has no more numbers than it may have.
func plainCheck(l []int) api.Errno {
	for i, x := range l {
		switch {
		case x < 0:
			return api.ErrArg
		case slices.Contains(l[:i], x):
			return api.ErrTwice
		}
	}
	return api.OK
}

// P8.2: all short lists, among them those with several errors.
func TestCheckShort(t *testing.T) {
	for n := range 6 {
		lists(n, []int{-1, 0, 2, 5, math.MinInt, math.MaxInt}, func(l []int) {
			arg := slices.Clone(l)
			if e := rises.Check(arg); e != plainCheck(l) || !slices.Equal(arg, l) {
				t.Fatalf("Check(%v) = %v, want %v", l, e, plainCheck(l))
			}
		})
	}
}

// P8.2: the limit, which is ahead of what is wrong with the numbers, and errors
// far behind.
func TestCheckLimit(t *testing.T) {
	l := back(count(7, api.MaxList))
	if e := rises.Check(l); e != api.OK {
		t.Error("an order at the limit:", e)
	}
	l[api.MaxList-1] = l[0]
	if e := rises.Check(l); e != api.ErrTwice {
		t.Error("the last one is the first one:", e)
	}
	l[api.MaxList-1] = -1
	if e := rises.Check(l); e != api.ErrArg {
		t.Error("the last one is negative:", e)
	}
	for _, first := range []int{-1, 0, 1} {
		if e := rises.Check(append([]int{first, 1}, count(0, api.MaxList-1)...)); e != api.ErrLimit {
			t.Error("one number too many:", e)
		}
	}
}

// P8.3, P8.5: all orders of a few numbers become all others.
func TestMovesShort(t *testing.T) {
	for n := range 6 {
		numbers := []int{4, 0, 9, math.MaxInt, 3}[:n]
		orders(numbers, func(old []int) {
			orders(numbers, func(now []int) {
				steps := change(t, old, now)
				if slices.Equal(old, now) && len(steps) != 0 {
					t.Fatalf("from %v to itself: %v", old, steps)
				}
			})
		})
	}
}

// reached returns, for each order that comes of one by steps, how few of them
// are needed: by a look at all steps.
func reached(l []int) map[[6]int]int {
	key := func(l []int) (out [6]int) {
		copy(out[:], l)
		return out
	}
	out := map[[6]int]int{key(l): 0}
	for turn := [][]int{l}; len(turn) > 0; turn = turn[1:] {
		for _, what := range l {
			for _, ahead := range append([]int{-1}, l...) {
				if what == ahead {
					continue
				}
				now := plainCarry(turn[0], []rises.Step{step(what, ahead)})
				if _, found := out[key(now)]; !found {
					out[key(now)] = out[key(turn[0])] + 1
					turn = append(turn, now)
				}
			}
		}
	}
	return out
}

// P8.5: no list of fewer steps does the same.
func TestMovesFewest(t *testing.T) {
	for n := 1; n <= 6; n++ {
		old := []int{5, 1, 8, 2, 7, 6}[:n]
		fewest := reached(old)
		orders(old, func(now []int) {
			steps := change(t, old, now)
			var key [6]int
			copy(key[:], now)
			if want := fewest[key]; len(steps) != want {
				t.Fatalf("Moves(%v, %v) = %v: %d steps are enough", old, now, steps, want)
			}
		})
	}
}

// P8.3, P8.5: long orders, of which few numbers or all of them are moved.
func TestMovesLong(t *testing.T) {
	r := rand.New(rand.NewSource(83))
	for n := 1; n <= 400; n += 1 + n/3 {
		old := r.Perm(10 * n)[:n]
		for moved := 0; moved <= n; moved = 2*moved + 1 {
			now := slices.Clone(old)
			for range moved {
				i := r.Intn(n)
				x := now[i]
				now = slices.Insert(slices.Delete(now, i, i+1), r.Intn(n), x)
			}
			if steps := change(t, old, now); len(steps) > moved {
				t.Fatalf("%d steps, where %d are enough", len(steps), moved)
			}
		}
		change(t, old, back(old))
	}
}

// P8.3, P8.4: orders at the limit.
func TestMovesLimit(t *testing.T) {
	r := rand.New(rand.NewSource(84))
	old, now := r.Perm(api.MaxList), r.Perm(api.MaxList)
	change(t, old, now)
	if steps := change(t, old, old); len(steps) != 0 {
		t.Error("to itself:", steps)
	}
	if steps := change(t, now, back(now)); len(steps) != api.MaxList-1 {
		t.Error("to the other way round:", len(steps))
	}
}

// P8.3: what is wrong with the orders, the old one first.
func TestMovesErrors(t *testing.T) {
	more := count(0, api.MaxList+1)
	for _, c := range []struct {
		old, now []int
		want     api.Errno
	}{
		{more, more, api.ErrLimit},
		{more, []int{-1}, api.ErrLimit},
		{[]int{1, 1}, more, api.ErrTwice},
		{[]int{-1}, more, api.ErrArg},
		{[]int{-1}, []int{1, 1}, api.ErrArg},
		{[]int{1, 1}, []int{-1}, api.ErrTwice},
		{[]int{1, 2}, more, api.ErrLimit},
		{[]int{1, 2}, []int{1, 1}, api.ErrTwice},
		{[]int{1, 2}, []int{1, -2}, api.ErrArg},
		{[]int{1, 2}, []int{1, 2, 2}, api.ErrTwice},
		{[]int{1, 2}, []int{1, 2, 3, -1}, api.ErrArg},
		{nil, []int{-1}, api.ErrArg},
		{[]int{1, 2}, []int{1, 3}, api.ErrOrder},
		{[]int{1, 2}, []int{3, 1}, api.ErrOrder},
		{[]int{1, 2}, []int{1}, api.ErrOrder},
		{[]int{1, 2}, []int{2, 1, 0}, api.ErrOrder},
		{[]int{1, 2}, nil, api.ErrOrder},
		{nil, []int{0}, api.ErrOrder},
		{[]int{0}, []int{1}, api.ErrOrder},
		{nil, nil, api.OK},
		{[]int{}, nil, api.OK},
	} {
		if kept, e := rises.Kept(c.old, c.now); len(kept) != 0 || e != c.want {
			t.Errorf("Kept(%v, %v) = %v, %v, want %v", c.old, c.now, kept, e, c.want)
		}
		if steps, e := rises.Moves(c.old, c.now); len(steps) != 0 || e != c.want {
			t.Errorf("Moves(%v, %v) = %v, %v, want %v", c.old, c.now, steps, e, c.want)
		}
	}
}

// stepError is the error of the first step that has one.
func stepError(l []int, steps []rises.Step) api.Errno {
	for _, s := range steps {
		switch {
		case !slices.Contains(l, s.What):
			return api.ErrNone
		case s.Ahead != -1 && !slices.Contains(l, s.Ahead):
			return api.ErrNone
		case s.What == s.Ahead:
			return api.ErrArg
		}
	}
	return api.OK
}

// P8.4: short lists with all lists of up to three steps, also of steps that may
// not be.
func TestCarryShort(t *testing.T) {
	for n := range 4 {
		l := []int{2, 0, 5}[:n]
		lists(2, []int{-2, -1, 0, 2, 3, 5}, func(a []int) {
			lists(2, []int{-2, -1, 0, 2, 3, 5}, func(b []int) {
				one, two := step(a[0], a[1]), step(b[0], b[1])
				for _, steps := range [][]rises.Step{nil, {one}, {one, two}, {step(0, -1), one, two}} {
					want := stepError(l, steps)
					if want == api.OK {
						if got := carry(t, l, steps); !slices.Equal(got, plainCarry(l, steps)) {
							t.Fatalf("Carry(%v, %v) = %v, want %v", l, steps, got, plainCarry(l, steps))
						}
						continue
					}
					if out, e := rises.Carry(l, steps); out != nil || e != want {
						t.Fatalf("Carry(%v, %v) = %v, %v, want %v", l, steps, out, e, want)
					}
				}
			})
		})
	}
}

// P8.4: many steps of longer lists, some of which leave the list as it is.
func TestCarryLong(t *testing.T) {
	r := rand.New(rand.NewSource(85))
	for n := 1; n <= 200; n += 1 + n/2 {
		l := r.Perm(3 * n)[:n]
		steps := make([]rises.Step, 10*n)
		for i := range steps {
			s := step(l[r.Intn(n)], l[r.Intn(n)])
			if s.What == s.Ahead || r.Intn(n+1) == 0 {
				s.Ahead = -1
			}
			steps[i] = s
		}
		if got := carry(t, l, steps); !slices.Equal(got, plainCarry(l, steps)) {
			t.Fatalf("Carry(%v, %v) = %v, want %v", l, steps, got, plainCarry(l, steps))
		}
	}
}

// P8.4: the limit of the steps, which is behind the error of the list and ahead
// of those of the steps.
func TestCarryLimit(t *testing.T) {
	l := count(0, api.MaxList)
	steps := make([]rises.Step, api.MaxList)
	for i := range steps {
		steps[i] = step(i, -1)
	}
	if got := carry(t, l, steps); !slices.Equal(got, l) {
		t.Error("each number to the end:", got)
	}
	more := append(slices.Clone(steps), step(0, -1))
	wrong := append([]rises.Step{step(1, 1)}, steps...)
	for _, c := range []struct {
		l     []int
		steps []rises.Step
		want  api.Errno
	}{
		{l, more, api.ErrLimit},
		{l, wrong, api.ErrLimit},
		{nil, wrong, api.ErrLimit},
		{[]int{1, 1}, more, api.ErrTwice},
		{[]int{-1}, more, api.ErrArg},
		{count(0, api.MaxList+1), nil, api.ErrLimit},
		{count(0, api.MaxList+1), more[:1], api.ErrLimit},
		{[]int{1, 1}, nil, api.ErrTwice},
		{[]int{1, 1}, []rises.Step{step(3, 3)}, api.ErrTwice},
		{[]int{-1}, []rises.Step{step(-1, -1)}, api.ErrArg},
	} {
		if out, e := rises.Carry(c.l, c.steps); out != nil || e != c.want {
			t.Errorf("Carry of %d numbers and %d steps: %v, %v, want %v", len(c.l), len(c.steps), out, e, c.want)
		}
	}
	if out, e := rises.Carry(nil, nil); len(out) != 0 || e != api.OK {
		t.Error("nothing:", out, e)
	}
}

// P8.1, P8.3, P8.4: the chapter's examples.
func TestExamples(t *testing.T) {
	for _, c := range []struct{ l, want []int }{
		{[]int{3, 1, 2, 0, 5}, []int{1, 2, 4}},
		{[]int{2, 1}, []int{0}},
		{[]int{5, 5}, []int{0}},
		{nil, nil},
	} {
		if got := longest(t, c.l); !slices.Equal(got, c.want) {
			t.Errorf("Longest(%v) = %v, want %v", c.l, got, c.want)
		}
	}
	if got := change(t, []int{1, 2, 3, 4}, []int{4, 1, 2, 3}); !slices.Equal(got, []rises.Step{step(4, 1)}) {
		t.Error("1 2 3 4 to 4 1 2 3:", got)
	}
	turned := []rises.Step{step(1, -1), step(2, 1)}
	if got := change(t, []int{1, 2, 3}, []int{3, 2, 1}); !slices.Equal(got, turned) {
		t.Error("1 2 3 to 3 2 1:", got)
	}
	if kept, e := rises.Kept([]int{1, 2, 3}, []int{3, 2, 1}); !slices.Equal(kept, []int{3}) || e != api.OK {
		t.Error("kept of 1 2 3 in 3 2 1:", kept, e)
	}
	if got := carry(t, []int{1, 2, 3}, turned); !slices.Equal(got, []int{3, 2, 1}) {
		t.Error("1 to the end, 2 ahead of 1:", got)
	}
	if steps, e := rises.Moves([]int{1, 2}, []int{1, 3}); steps != nil || e != api.ErrOrder {
		t.Error("other numbers:", steps, e)
	}
	if steps, e := rises.Moves([]int{1, 1}, []int{1, 1}); steps != nil || e != api.ErrTwice {
		t.Error("a number twice:", steps, e)
	}
	if out, e := rises.Carry([]int{1, 2}, []rises.Step{step(1, 1)}); out != nil || e != api.ErrArg {
		t.Error("1 ahead of itself:", out, e)
	}
}
