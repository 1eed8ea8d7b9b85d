// Package spans is layer 1: see shared/doc/01-spans.md.
package spans

import (
	"slices"

	"paternoster/api"
)

// MaxPlace is one more than the greatest place.
const MaxPlace = 1 << 30

// Span stands for the places i with From <= i < To.
type Span struct{ From, To int }

// Check returns the error of a set. (P1.1)
func Check(l []Span) api.Errno {
	if len(l) > api.MaxList {
		return api.ErrLimit
	}
	// No To is -1, so the first span may begin at any place.
	last := -1
	for _, s := range l {
		switch {
		case s.From < 0 || s.From >= s.To || s.To > MaxPlace:
			return api.ErrArg
		case s.From <= last:
			return api.ErrOrder
		}
		last = s.To
	}
	return api.OK
}

// Of returns the set of places. (P1.2)
func Of(places []int) ([]Span, api.Errno) {
	sorted := slices.Sorted(slices.Values(places))
	if k := len(sorted) - 1; k >= 0 && (sorted[0] < 0 || sorted[k] >= MaxPlace) {
		return nil, api.ErrRange
	}
	var out []Span
	for _, i := range sorted {
		out = add(out, Span{From: i, To: i + 1})
	}
	return result(out)
}

// Has reports whether a place is in a set. (P1.3)
func Has(l []Span, i int) bool {
	if Check(l) != api.OK {
		return false
	}
	for _, s := range l {
		if s.From <= i && i < s.To {
			return true
		}
	}
	return false
}

// Count returns how many places are in a set. (P1.3)
func Count(l []Span) int {
	if Check(l) != api.OK {
		return 0
	}
	n := 0
	for _, s := range l {
		n += s.To - s.From
	}
	return n
}

// Union returns the places that are in one of two sets. (P1.4)
func Union(a, b []Span) ([]Span, api.Errno) {
	return combine(a, b, func(inA, inB bool) bool { return inA || inB })
}

// Common returns the places that are in both sets. (P1.4)
func Common(a, b []Span) ([]Span, api.Errno) {
	return combine(a, b, func(inA, inB bool) bool { return inA && inB })
}

// Without returns the places that are in a, but not in b. (P1.4)
func Without(a, b []Span) ([]Span, api.Errno) {
	return combine(a, b, func(inA, inB bool) bool { return inA && !inB })
}

// Insert returns where the places are after an insertion. (P1.5)
func Insert(l []Span, at, n int) ([]Span, api.Errno) {
	if e := Check(l); e != api.OK {
		return nil, e
	}
	if !within(at) || !within(n) {
		return nil, api.ErrRange
	}
	// The greatest place decides whether all of them have room.
	if k := len(l) - 1; k >= 0 && l[k].To > at && l[k].To > MaxPlace-n {
		return nil, api.ErrRange
	}
	var out []Span
	for _, s := range l {
		out = add(out, Span{From: s.From, To: min(s.To, at)})
		// What stays is not added to n: the sum might be too great.
		if s.To > at {
			out = add(out, Span{From: max(s.From, at) + n, To: s.To + n})
		}
	}
	return result(out)
}

// Remove returns where the places are after a removal. (P1.6)
func Remove(l []Span, at, n int) ([]Span, api.Errno) {
	if e := Check(l); e != api.OK {
		return nil, e
	}
	if !within(at) || !within(n) {
		return nil, api.ErrRange
	}
	// Behind MaxPlace there is nothing to remove, and at + n stays small.
	end := at + min(n, MaxPlace-at)
	var out []Span
	for _, s := range l {
		out = add(out, Span{From: s.From, To: min(s.To, at)})
		out = add(out, Span{From: max(s.From, end) - n, To: s.To - n})
	}
	return result(out)
}

// within reports whether a number may be a place or a number of places.
func within(x int) bool { return 0 <= x && x <= MaxPlace }

// combine returns the places that keep wants, which is told in which of two
// sets a place is. Keep must not want places that are in none of them.
func combine(a, b []Span, keep func(inA, inB bool) bool) ([]Span, api.Errno) {
	if e := Check(a); e != api.OK {
		return nil, e
	}
	if e := Check(b); e != api.OK {
		return nil, e
	}
	var out []Span
	at := 0
stretches:
	for {
		switch {
		case len(a) > 0 && a[0].To == at:
			a = a[1:]
			continue stretches
		case len(b) > 0 && b[0].To == at:
			b = b[1:]
			continue stretches
		case len(a) == 0 && len(b) == 0:
			break stretches
		}
		inA, endA := stretch(a, at)
		inB, endB := stretch(b, at)
		end := min(endA, endB)
		if keep(inA, inB) {
			out = add(out, Span{From: at, To: end})
		}
		at = end
	}
	return result(out)
}

// stretch reports whether the place at is in a set that ends behind it, and
// up to where all places from there on are in it, or all are not.
func stretch(l []Span, at int) (in bool, end int) {
	switch {
	case len(l) == 0:
		return false, MaxPlace
	case at < l[0].From:
		return false, l[0].From
	}
	return true, l[0].To
}

// add appends a span that neither begins nor ends ahead of the last one, unless
// it is empty. Spans that touch become one: each set has one list only.
func add(l []Span, s Span) []Span {
	if s.From >= s.To {
		return l
	}
	if k := len(l) - 1; k >= 0 && s.From <= l[k].To {
		l[k].To = s.To
		return l
	}
	return append(l, s)
}

// result returns a set as a result, which has no spare capacity.
func result(l []Span) ([]Span, api.Errno) {
	if len(l) > api.MaxList {
		return nil, api.ErrLimit
	}
	return slices.Clip(l), api.OK
}
