package tests

import (
	"fmt"
	"math"
	"math/rand/v2"
	"reflect"
	"slices"
	"testing"

	"loop.example/g01046/impl"
)

// hostileNumbers lie at and beyond every limit of stations, tubes and lengths.
var hostileNumbers = []int64{math.MinInt64, math.MinInt64 + 1, -11, -1, 0, 1, 2, 3, 9, 10, 11, 23, 24, 25, 2000, 2001, math.MaxInt64 - 1, math.MaxInt64}

// check compares deeply; a nil slice and an empty one are equivalent.
func check(t *testing.T, name string, got, want any) {
	t.Helper()
	if isEmptySlice(got) && isEmptySlice(want) {
		return
	}
	if !reflect.DeepEqual(got, want) {
		t.Errorf("%s: got %v, want %v", name, got, want)
	}
}

// brief tells arguments that may be very long.
func brief(args ...any) string {
	s := fmt.Sprint(args...)
	return s[:min(len(s), 300)]
}

func isEmptySlice(x any) bool {
	v := reflect.ValueOf(x)
	return v.Kind() == reflect.Slice && v.Len() == 0
}

// isZero reports whether x is what stands beside an error.
func isZero(x any) bool { return isEmptySlice(x) || reflect.ValueOf(x).IsZero() }

// checkErrorResults expects of calls, whose results end with the code, a code and zero values beside it.
func checkErrorResults(t *testing.T, calls map[string][]any, want int64, names ...string) {
	t.Helper()
	for _, name := range names {
		results := calls[name]
		last := len(results) - 1
		check(t, name, results[last], want)
		for _, x := range results[:last] {
			check(t, name, isZero(x), true)
		}
	}
}

// guarded returns a copy of list with unused capacity, and a function which reports whether list or this capacity has changed.
func guarded[E any](list []E, filler E) ([]E, func() bool) {
	room := append(slices.Clone(list), filler, filler, filler)
	before := slices.Clone(room)
	return room[:len(list)], func() bool { return !reflect.DeepEqual(room, before) }
}

// guardedDeeply guards a list, and also what inner guards of each element.
func guardedDeeply[E any](list []E, filler E, inner func(E) (E, func() bool)) ([]E, func() bool) {
	var elements []E
	var changes []func() bool
	for _, x := range list {
		element, changed := inner(x)
		elements, changes = append(elements, element), append(changes, changed)
	}
	kept, changed := guarded(elements, filler)
	changes = append(changes, changed)
	return kept, func() bool {
		return slices.ContainsFunc(changes, func(changed func() bool) bool { return changed() })
	}
}

// checkResultsKept calls results three times, and overwrites the second ones: the others must be equal, and no argument may have changed.
func checkResultsKept(t *testing.T, name string, results func() []any, changes ...func() bool) {
	t.Helper()
	want, second := results(), results()
	if !reflect.DeepEqual(second, want) {
		t.Errorf("%s: got %s, and then %s", name, brief(want), brief(second))
	}
	spoil(second)
	for i, changed := range changes {
		if changed() {
			t.Errorf("%s: the argument %d has been changed, or is shared with a result", name, i)
		}
	}
	if again := results(); !reflect.DeepEqual(again, want) {
		t.Errorf("%s: after changed results got %s, want %s", name, brief(again), brief(want))
	}
}

func guardedNet(n impl.Net) (impl.Net, func() bool) {
	tubes, changed := guarded(n.Tubes, impl.Tube{From: 7, To: 7, Length: 7})
	return impl.Net{Stations: n.Stations, Tubes: tubes}, changed
}

// cornerNets are networks at the limits, and in forms that drawn networks seldom have.
func cornerNets() []impl.Net {
	full := impl.Net{Stations: 10}
	for i := range int64(24) {
		full.Tubes = append(full.Tubes, impl.Tube{From: i % 10, To: (i + 1) % 10, Length: 2000})
	}
	return []impl.Net{
		{Stations: 2},
		{Stations: 10},
		{Stations: 2, Tubes: []impl.Tube{{From: 0, To: 1, Length: 1}}},
		{Stations: 2, Tubes: []impl.Tube{{From: 0, To: 1, Length: 2000}, {From: 1, To: 0, Length: 2000}}},
		{Stations: 2, Tubes: []impl.Tube{{From: 0, To: 1, Length: 5}, {From: 0, To: 1, Length: 5}, {From: 1, To: 0, Length: 5}, {From: 0, To: 1, Length: 4}}},
		full,
	}
}

func invalidNets() []impl.Net {
	tube := func(from, to, length int64) impl.Net {
		return impl.Net{Stations: 3, Tubes: []impl.Tube{{From: 0, To: 1, Length: 1}, {From: from, To: to, Length: length}}}
	}
	wide := cornerNets()[5]
	wide.Tubes = append(wide.Tubes, impl.Tube{From: 0, To: 1, Length: 1})
	return []impl.Net{
		{}, {Stations: -1}, {Stations: 1}, {Stations: 11}, {Stations: math.MinInt64}, {Stations: math.MaxInt64}, wide,
		tube(-1, 1, 1), tube(3, 1, 1), tube(1, -1, 1), tube(1, 3, 1), tube(1, 1, 1),
		tube(0, 1, 0), tube(0, 1, -1), tube(0, 1, 2001),
		tube(math.MinInt64, 1, 1), tube(math.MaxInt64, 1, 1), tube(0, math.MinInt64, 1), tube(0, math.MaxInt64, 1),
		tube(0, 1, math.MinInt64), tube(0, 1, math.MaxInt64),
	}
}

// drawnNets are valid networks; their few different lengths make many ways equally long.
func drawnNets(count int) []impl.Net {
	r := rand.New(rand.NewPCG(2, 3))
	var list []impl.Net
	for range count {
		n := impl.Net{Stations: 2 + r.Int64N(5)}
		for range r.IntN(13) {
			from := r.Int64N(n.Stations)
			to := (from + 1 + r.Int64N(n.Stations-1)) % n.Stations
			n.Tubes = append(n.Tubes, impl.Tube{From: from, To: to, Length: 1 + r.Int64N(3)})
		}
		list = append(list, n)
	}
	return list
}
