package tests

import (
	"fmt"
	"slices"
	"testing"

	"loop.example/g01046/impl"
)

// leastWay goes through all ways that come to no station twice, and so finds the least length and the first way with it.
func leastWay(n impl.Net, from, to int64) ([]int64, int64, bool) {
	var best []int64
	least, found := int64(0), false
	seen := make([]bool, n.Stations)
	var walk func(station, length int64, way []int64)
	walk = func(station, length int64, way []int64) {
		if station == to {
			if !found || length < least || length == least && slices.Compare(way, best) < 0 {
				best, least, found = slices.Clone(way), length, true
			}
			return
		}
		seen[station] = true
		for i, x := range n.Tubes {
			if x.From == station && !seen[x.To] {
				walk(x.To, length+x.Length, append(slices.Clone(way), int64(i)))
			}
		}
		seen[station] = false
	}
	walk(from, 0, nil)
	return best, least, found
}

// isStrongByWays reports whether there is a way from each station to each other one.
func isStrongByWays(n impl.Net) bool {
	for a := range n.Stations {
		for b := range n.Stations {
			if _, _, found := leastWay(n, a, b); !found {
				return false
			}
		}
	}
	return true
}

// Promise 2: a network is strong just if all stations are reached from all.
func TestStrongIfAllAreReached(t *testing.T) {
	strong := 0
	for _, n := range append(cornerNets(), drawnNets(1500)...) {
		all := true
		for a := range n.Stations {
			var want []int64
			for b := range n.Stations {
				if _, _, found := leastWay(n, a, b); found {
					want = append(want, b)
				}
			}
			got, code := impl.ReachedFrom(n, a)
			check(t, impl.NetText(n), []any{got, code}, []any{want, int64(impl.OK)})
			all = all && len(got) == int(n.Stations)
		}
		is, code := impl.IsStrong(n)
		check(t, impl.NetText(n), []any{is, code}, []any{all, int64(impl.OK)})
		if is {
			strong++
		}
	}
	if strong < 100 {
		t.Errorf("only %d of the networks are strong", strong)
	}
}

func TestCriticalTubesOneByOne(t *testing.T) {
	for _, n := range append(cornerNets(), drawnNets(1500)...) {
		got, code := impl.CriticalTubes(n)
		if !isStrongByWays(n) {
			check(t, impl.NetText(n), []any{len(got), code}, []any{0, int64(impl.ErrState)})
			continue
		}
		var want []int64
		for i := range n.Tubes {
			rest := impl.Net{Stations: n.Stations, Tubes: slices.Delete(slices.Clone(n.Tubes), i, i+1)}
			if !isStrongByWays(rest) {
				want = append(want, int64(i))
			}
		}
		check(t, impl.NetText(n), code, int64(impl.OK))
		check(t, impl.NetText(n), got, want)
	}
}

// Promise 2: no way over another station is shorter.
func TestNoWayOverAnotherStationIsShorter(t *testing.T) {
	for _, n := range append(cornerNets(), drawnNets(1500)...) {
		for a := range n.Stations {
			for b := range n.Stations {
				checkNoShorter(t, n, a, b)
			}
		}
	}
}

func checkNoShorter(t *testing.T, n impl.Net, a, b int64) {
	t.Helper()
	length, code := impl.ShortestLength(n, a, b)
	for over := range n.Stations {
		first, one := impl.ShortestLength(n, a, over)
		second, two := impl.ShortestLength(n, over, b)
		if one == impl.OK && two == impl.OK && (code != impl.OK || first+second < length) {
			t.Errorf("%s: from %d to %d: %d over %d, but %d (code %d)", impl.NetText(n), a, b, first+second, over, length, code)
		}
	}
}

func TestShortestWayIsTheFirstOfAll(t *testing.T) {
	for _, n := range append(cornerNets(), drawnNets(1500)...) {
		for a := range n.Stations {
			for b := range n.Stations {
				checkShortest(t, n, a, b)
			}
		}
	}
}

func checkShortest(t *testing.T, n impl.Net, a, b int64) {
	t.Helper()
	want, least, found := leastWay(n, a, b)
	length, one := impl.ShortestLength(n, a, b)
	way, two := impl.ShortestWay(n, a, b)
	name := fmt.Sprint(impl.NetText(n), " from ", a, " to ", b)
	if !found {
		check(t, name, []any{length, one, len(way), two}, []any{int64(0), int64(impl.ErrNotFound), 0, int64(impl.ErrNotFound)})
		return
	}
	check(t, name, []int64{length, one, two}, []int64{least, impl.OK, impl.OK})
	check(t, name, way, want)
	is, code := impl.IsWay(n, way, a, b)
	check(t, name, []any{is, code}, []any{true, int64(impl.OK)})
}

// networkResults calls every function of chapter 2 that takes a network.
func networkResults(n impl.Net, way []int64, a, b int64) []any {
	var all []any
	put := func(x ...any) { all = append(all, x...) }
	wider, code := impl.AddTube(n, impl.Tube{From: a, To: b, Length: 5})
	put(wider.Stations, wider.Tubes, code)
	tubes, code := impl.TubesFrom(n, a)
	put(tubes, code)
	reached, code := impl.ReachedFrom(n, a)
	put(reached, code)
	strong, code := impl.IsStrong(n)
	put(strong, code)
	critical, code := impl.CriticalTubes(n)
	put(critical, code)
	length, code := impl.ShortestLength(n, a, b)
	put(length, code)
	shortest, code := impl.ShortestWay(n, a, b)
	put(shortest, code)
	is, code := impl.IsWay(n, way, a, b)
	put(is, code)
	back, ok := impl.ReadNet(impl.NetText(n))
	put(impl.NetText(n), back.Stations, back.Tubes, ok, impl.ValidNet(n), impl.SameNet(n, n))
	return all
}

// spoil overwrites every slice of results up to its capacity.
func spoil(results []any) {
	for _, x := range results {
		switch list := x.(type) {
		case []int64:
			fill(list[:cap(list)], -99)
		case []string:
			fill(list[:cap(list)], "spoilt")
		case []impl.Tube:
			fill(list[:cap(list)], impl.Tube{From: -99})
		case [][]int64:
			for _, row := range list {
				fill(row[:cap(row)], -99)
			}
			fill(list[:cap(list)], nil)
		case []impl.Run:
			for _, x := range list {
				fill(x.Way[:cap(x.Way)], -99)
			}
			fill(list[:cap(list)], impl.Run{Start: -99})
		case []impl.Move:
			fill(list[:cap(list)], move(-99, -99, -99))
		case []impl.Seal:
			fill(list[:cap(list)], seal(-99, -99))
		case []impl.Guest:
			fill(list[:cap(list)], guest(-99, -99))
		case impl.Zoned:
			fill(list.Of[:cap(list.Of)], -99)
			fill(list.Changes[:cap(list.Changes)], change(-99, -99, -99))
		}
	}
}

func fill[E any](list []E, x E) {
	for i := range list {
		list[i] = x
	}
}

// Promise 1 for chapter 2.
func TestNetworksKeepArguments(t *testing.T) {
	all := slices.Concat(cornerNets(), invalidNets(), drawnNets(60), []impl.Net{example()})
	for _, n := range all {
		for _, a := range hostileNumbers {
			for _, b := range hostileNumbers {
				checkKept(t, n, a, b)
			}
		}
	}
}

func checkKept(t *testing.T, n impl.Net, a, b int64) {
	t.Helper()
	given, netChanged := guardedNet(n)
	way, wayChanged := guarded([]int64{a, 0, b}, 77)
	checkResultsKept(t, fmt.Sprint(n, a, b), func() []any { return networkResults(given, way, a, b) }, netChanged, wayChanged)
}

func TestWideCapacityIsKept(t *testing.T) {
	room := make([]impl.Tube, 3, 24)
	copy(room, example().Tubes)
	n := impl.Net{Stations: 3, Tubes: room}
	first, _ := impl.AddTube(n, impl.Tube{From: 2, To: 0, Length: 1})
	second, _ := impl.AddTube(n, impl.Tube{From: 2, To: 1, Length: 2})
	check(t, "capacity", room[:4][3], impl.Tube{})
	check(t, "first", impl.NetText(first), exampleText+" 2>0*1")
	check(t, "second", impl.NetText(second), exampleText+" 2>1*2")
}
