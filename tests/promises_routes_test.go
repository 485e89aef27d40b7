package tests

import (
	"fmt"
	"math/rand/v2"
	"slices"
	"testing"

	"loop.example/g01046/impl"
)

// routeNets are valid; half of them are wide, with long tubes.
func routeNets(count int) []impl.Net {
	list := drawnNets(count / 2)
	r := rand.New(rand.NewPCG(4, 4))
	for range count - count/2 {
		n := impl.Net{Stations: 2 + r.Int64N(9)}
		for range r.IntN(25) {
			from := r.Int64N(n.Stations)
			to := (from + 1 + r.Int64N(n.Stations-1)) % n.Stations
			n.Tubes = append(n.Tubes, impl.Tube{From: from, To: to, Length: 2000 - 500*r.Int64N(4)})
		}
		list = append(list, n)
	}
	return list
}

// drawnSetting lets a carrier stop at few stations.
func drawnSetting(r *rand.Rand, n impl.Net) []int64 {
	setting := stopped(n)
	for i, x := range n.Tubes {
		if r.IntN(3) > 0 {
			setting[x.From] = int64(i)
		}
	}
	return setting
}

// allSettings are those that the document allows, built station by station.
func allSettings(n impl.Net) [][]int64 {
	list := [][]int64{{}}
	for station := range n.Stations {
		var longer [][]int64
		for _, setting := range list {
			for tube := int64(-1); tube < int64(len(n.Tubes)); tube++ {
				if tube < 0 || n.Tubes[tube].From == station {
					longer = append(longer, append(slices.Clone(setting), tube))
				}
			}
		}
		list = longer
	}
	return list
}

// run lets a carrier run through more tubes than there can be without a circle; it returns the tubes, and where the carrier is then.
func run(n impl.Net, setting []int64, from int64) ([]int64, int64) {
	var tubes []int64
	for len(tubes) < 100 && setting[from] >= 0 {
		tubes = append(tubes, setting[from])
		from = n.Tubes[setting[from]].To
	}
	return tubes, from
}

func checkRuns(t *testing.T, n impl.Net, setting []int64) {
	t.Helper()
	name := fmt.Sprint(impl.NetText(n), setting)
	var never []int64
	for from := range n.Stations {
		tubes, last := run(n, setting, from)
		stops := len(tubes) < 100
		end, code := impl.EndOf(n, setting, from)
		if stops {
			check(t, name, []int64{end, code}, []int64{last, impl.OK})
		} else {
			check(t, name, []int64{end, code}, []int64{0, impl.ErrClash})
			never = append(never, from)
		}
		for to := range n.Stations {
			checkRoute(t, n, setting, from, to, tubes, stops)
		}
	}
	circles, code := impl.CircleStations(n, setting)
	check(t, name, code, int64(impl.OK))
	check(t, name, circles, never)
}

// checkRoute compares a route with the tubes through which the carrier runs from a station.
func checkRoute(t *testing.T, n impl.Net, setting []int64, from, to int64, tubes []int64, stops bool) {
	t.Helper()
	want, wantCode := []int64(nil), int64(impl.OK)
	if from != to {
		i := slices.IndexFunc(tubes, func(tube int64) bool { return n.Tubes[tube].To == to })
		switch {
		case i >= 0:
			want = tubes[:i+1]
		case stops:
			wantCode = impl.ErrNotFound
		default:
			wantCode = impl.ErrClash
		}
	}
	route, code := impl.RouteOf(n, setting, from, to)
	name := fmt.Sprint(impl.NetText(n), setting, from, to)
	check(t, name, code, wantCode)
	check(t, name, route, want)
}

// Promise 4: a carrier runs by the setting.
func TestCarriersRunByTheSetting(t *testing.T) {
	r := rand.New(rand.NewPCG(5, 4))
	for _, n := range append(cornerNets(), routeNets(400)...) {
		for range 8 {
			checkRuns(t, n, drawnSetting(r, n))
		}
	}
}

func TestSettingsOneByOne(t *testing.T) {
	counted := 0
	for _, n := range append(cornerNets(), routeNets(300)...) {
		count, code := impl.CountSettings(n)
		if code != impl.OK || count > 2000 {
			continue
		}
		counted++
		settings := allSettings(n)
		check(t, impl.NetText(n), count, int64(len(settings)))
		for _, setting := range settings {
			check(t, fmt.Sprint(impl.NetText(n), setting), impl.ValidSetting(n, setting), true)
		}
		for _, setting := range settings[:min(50, len(settings))] {
			checkRuns(t, n, setting)
		}
	}
	if counted < 100 {
		t.Errorf("only %d networks have few settings", counted)
	}
}

// simpleWaysFrom are all simple ways from a station, in ascending order number by number.
func simpleWaysFrom(n impl.Net, from int64) [][]int64 {
	list := [][]int64{nil}
	seen := make([]bool, n.Stations)
	var walk func(station int64, way []int64)
	walk = func(station int64, way []int64) {
		seen[station] = true
		for i, x := range n.Tubes {
			if x.From == station && !seen[x.To] {
				longer := append(slices.Clone(way), int64(i))
				list = append(list, longer)
				walk(x.To, longer)
			}
		}
		seen[station] = false
	}
	walk(from, nil)
	return list
}

// turned counts the switches that must be turned, and measures the way.
func turned(n impl.Net, setting, way []int64) (turns, length int64) {
	for _, tube := range way {
		if setting[n.Tubes[tube].From] != tube {
			turns++
		}
		length += n.Tubes[tube].Length
	}
	return turns, length
}

// best is a way to a station, and what it needs.
type best struct {
	way           []int64
	turns, length int64
}

// bestWays are the ways to each station which a search through all simple ways finds.
func bestWays(n impl.Net, setting []int64, from int64) map[int64]best {
	found := map[int64]best{}
	for _, way := range simpleWaysFrom(n, from) {
		to := from
		if len(way) > 0 {
			to = n.Tubes[way[len(way)-1]].To
		}
		turns, length := turned(n, setting, way)
		old, ok := found[to]
		if !ok || turns < old.turns || turns == old.turns && (length < old.length || length == old.length && slices.Compare(way, old.way) < 0) {
			found[to] = best{way, turns, length}
		}
	}
	return found
}

func checkFewest(t *testing.T, n impl.Net, setting []int64, from int64) {
	t.Helper()
	found := bestWays(n, setting, from)
	for to := range n.Stations {
		name := fmt.Sprint(impl.NetText(n), setting, from, to)
		way, turns, code := impl.FewestTurns(n, setting, from, to)
		want, ok := found[to]
		if !ok {
			check(t, name, []any{len(way), turns, code}, []any{0, int64(0), int64(impl.ErrNotFound)})
			continue
		}
		check(t, name, []int64{turns, code}, []int64{want.turns, impl.OK})
		check(t, name, way, want.way)
		again, code := impl.TurnsFor(n, setting, way)
		check(t, name, []int64{again, code}, []int64{want.turns, impl.OK})
	}
}

// Promise 4: no way needs fewer turned switches than the told one.
func TestNoWayNeedsFewerTurns(t *testing.T) {
	r := rand.New(rand.NewPCG(6, 4))
	for _, n := range append(cornerNets(), routeNets(400)...) {
		for from := range n.Stations {
			checkFewest(t, n, drawnSetting(r, n), from)
		}
		checkFewest(t, n, stopped(n), 0)
	}
}

// A way that is set is the route of a carrier, and needs no more turns.
func TestSetWaysAreRun(t *testing.T) {
	r := rand.New(rand.NewPCG(7, 4))
	for _, n := range append(cornerNets(), routeNets(200)...) {
		setting := drawnSetting(r, n)
		from := r.Int64N(n.Stations)
		ways := simpleWaysFrom(n, from)
		for range 20 {
			checkSet(t, n, setting, from, ways[r.IntN(len(ways))])
		}
	}
}

func checkSet(t *testing.T, n impl.Net, setting []int64, from int64, way []int64) {
	t.Helper()
	name := fmt.Sprint(impl.NetText(n), setting, way)
	want, to := slices.Clone(setting), from
	for _, tube := range way {
		want[n.Tubes[tube].From] = tube
		to = n.Tubes[tube].To
	}
	set, code := impl.SetWay(n, setting, way)
	check(t, name, []any{set, code}, []any{want, int64(impl.OK)})
	wantTurns, _ := turned(n, setting, way)
	turns, code := impl.TurnsFor(n, setting, way)
	check(t, name, []int64{turns, code}, []int64{wantTurns, impl.OK})
	turns, code = impl.TurnsFor(n, set, way)
	check(t, name, []int64{turns, code}, []int64{0, impl.OK})
	route, code := impl.RouteOf(n, set, from, to)
	check(t, name, code, int64(impl.OK))
	check(t, name, route, way)
}

// clashBySpec looks at each station for tubes of both ways that begin there.
func clashBySpec(n impl.Net, a, b []int64) int64 {
	for station := range n.Stations {
		for _, x := range a {
			for _, y := range b {
				if n.Tubes[x].From == station && n.Tubes[y].From == station && x != y {
					return station
				}
			}
		}
	}
	return -1
}

func TestClashesStationByStation(t *testing.T) {
	r := rand.New(rand.NewPCG(8, 4))
	fits := 0
	for _, n := range append(cornerNets(), routeNets(400)...) {
		for range 20 {
			var ways [][]int64
			for range r.IntN(5) {
				all := simpleWaysFrom(n, r.Int64N(n.Stations))
				ways = append(ways, all[r.IntN(len(all))])
			}
			want := true
			for _, a := range ways {
				for _, b := range ways {
					clash, code := impl.FirstClash(n, a, b)
					check(t, fmt.Sprint(impl.NetText(n), a, b), []int64{clash, code}, []int64{clashBySpec(n, a, b), impl.OK})
					want = want && clash == -1
				}
			}
			fit, code := impl.WaysFit(n, ways)
			check(t, fmt.Sprint(impl.NetText(n), ways), []any{fit, code}, []any{want, int64(impl.OK)})
			if fit && len(ways) > 1 {
				fits++
			}
		}
	}
	if fits < 100 {
		t.Errorf("only %d lists of ways fit", fits)
	}
}

// routeResults calls every function of chapter 4.
func routeResults(n impl.Net, setting, a, b []int64, from, to int64) []any {
	var all []any
	calls := routeCalls(n, setting, from, to, a)
	for _, name := range append(slices.Concat(settingCalls, clashCalls), "CountSettings") {
		all = append(all, calls[name]...)
	}
	clash, one := impl.FirstClash(n, a, b)
	fit, two := impl.WaysFit(n, [][]int64{a, b})
	return append(all, impl.ValidSetting(n, setting), clash, one, fit, two)
}

// Promise 1 for chapter 4.
func TestRoutesKeepArguments(t *testing.T) {
	r := rand.New(rand.NewPCG(9, 4))
	for _, n := range slices.Concat(cornerNets(), invalidNets(), routeNets(60)) {
		for range 30 {
			from, to := hostileNumbers[r.IntN(len(hostileNumbers))], hostileNumbers[r.IntN(len(hostileNumbers))]
			setting, a, b := []int64{from, to}, []int64{from}, []int64{to, from}
			if impl.ValidNet(n) && r.IntN(4) > 0 {
				from, to = r.Int64N(n.Stations), r.Int64N(n.Stations)
				setting = drawnSetting(r, n)
				starts, ends := simpleWaysFrom(n, from), simpleWaysFrom(n, to)
				a, b = starts[r.IntN(len(starts))], ends[r.IntN(len(ends))]
			}
			checkRoutesKept(t, n, setting, a, b, from, to)
		}
	}
}

func checkRoutesKept(t *testing.T, n impl.Net, setting, a, b []int64, from, to int64) {
	t.Helper()
	name := fmt.Sprint(n, setting, a, b, from, to)
	given, netChanged := guardedNet(n)
	setting, settingChanged := guarded(setting, 77)
	a, aChanged := guarded(a, 77)
	b, bChanged := guarded(b, 77)
	checkResultsKept(t, name, func() []any { return routeResults(given, setting, a, b, from, to) }, netChanged, settingChanged, aChanged, bChanged)
}

func TestWaysOfAListAreKept(t *testing.T) {
	n := net(t, ringText)
	ways := [][]int64{{3, 1, 4}, {2, 0}, nil}
	room := append(ways, []int64{7}, []int64{8})
	impl.WaysFit(n, room[:3])
	check(t, "list of ways", room, [][]int64{{3, 1, 4}, {2, 0}, nil, {7}, {8}})
}
