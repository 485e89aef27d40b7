package tests

import (
	"fmt"
	"math/rand/v2"
	"slices"
	"testing"

	"loop.example/g01046/impl"
)

// drawnZoned have their changes at few ticks from base on, with few different levels, so that many changes come at once or change nothing.
func drawnZoned(seed uint64, count int, bases ...int64) []impl.Zoned {
	r := rand.New(rand.NewPCG(seed, 9))
	levels := []int64{-100, -30, -1, 0, 0, 0, 1, 10, 10, 20, 100}
	var list []impl.Zoned
	for range count {
		z := impl.Zoned{Zones: []int64{1, 2, 3, 8}[r.IntN(4)]}
		for range []int{0, 1, 3, 8, 24}[r.IntN(5)] {
			z.Of = append(z.Of, r.Int64N(z.Zones))
		}
		base, within := bases[r.IntN(len(bases))], []int64{1, 10, 40}[r.IntN(3)]
		var all []impl.Change
		for tick := base; tick < min(base+within, 10001); tick++ {
			for zone := range z.Zones {
				all = append(all, change(tick, zone, levels[r.IntN(len(levels))]))
			}
		}
		z.Changes = drawnChanges(r, all, []int{0, 1, 4, 15, 60}[r.IntN(5)])
		list = append(list, z)
	}
	return list
}

// drawnChanges are so many at most, in their order.
func drawnChanges(r *rand.Rand, all []impl.Change, count int) []impl.Change {
	var changes []impl.Change
	for i, c := range all {
		if r.IntN(len(all)-i) < count-len(changes) {
			changes = append(changes, c)
		}
	}
	return changes
}

// levelBySpec takes the last one of the changes of the zone up to the tick.
func levelBySpec(z impl.Zoned, zone, tick int64) int64 {
	level := int64(0)
	for _, c := range z.Changes {
		if c.Zone == zone && c.Tick <= tick {
			level = c.Level
		}
	}
	return level
}

// levelsBySpec are those at all ticks before an end.
func levelsBySpec(z impl.Zoned, zone, end int64) []int64 {
	var levels []int64
	for tick := range end {
		levels = append(levels, levelBySpec(z, zone, tick))
	}
	return levels
}

// ticksBySpec counts, at each tick, how many ticks before it have the level.
func ticksBySpec(levels []int64, least int64) []int64 {
	ticks := []int64{0}
	for tick, level := range levels {
		sum := ticks[tick]
		if level >= least {
			sum++
		}
		ticks = append(ticks, sum)
	}
	return ticks
}

// firstBySpec tries one tick after the other, and counts the ticks from it on.
func firstBySpec(levels []int64, least, from, ticks int64) []int64 {
	for first := from; first+ticks <= int64(len(levels)); first++ {
		enough := int64(0)
		for enough < ticks && levels[first+enough] >= least {
			enough++
		}
		if enough == ticks {
			return foundAt(first)
		}
	}
	return foundAt(-1)
}

// Promise 9: ticks with a level are counted one by one.
func TestTicksWithALevelAreCounted(t *testing.T) {
	for _, z := range drawnZoned(1, 200, 0, 1, 7) {
		for zone := range z.Zones {
			levels := levelsBySpec(z, zone, 60)
			for tick, level := range levels {
				got, code := impl.LevelAt(z, zone, int64(tick))
				check(t, fmt.Sprint(z, zone, tick), []int64{got, code}, []int64{level, impl.OK})
			}
			for _, least := range []int64{-100, -30, -29, -1, 0, 1, 2, 10, 11, 20, 21, 100} {
				for end, ticks := range ticksBySpec(levels, least) {
					got, code := impl.TicksAbove(z, zone, least, int64(end))
					check(t, fmt.Sprint(z, zone, least, end), []int64{got, code}, []int64{ticks, impl.OK})
				}
			}
		}
	}
}

// The same by LevelAt, up to the last tick.
func TestTicksUpToTheLastAreCounted(t *testing.T) {
	for _, z := range drawnZoned(2, 60, 0, 5000, 9960, 9990, 9995, 10000) {
		for _, zone := range []int64{0, z.Zones - 1} {
			var levels []int64
			for tick := range int64(10001) {
				level, _ := impl.LevelAt(z, zone, tick)
				levels = append(levels, level)
			}
			check(t, fmt.Sprint(z, zone), levels, levelsBySpec(z, zone, 10001))
			for _, least := range []int64{-30, 0, 1, 10} {
				counts := ticksBySpec(levels, least)
				for _, end := range []int64{0, 1, 4999, 5000, 5001, 5020, 9960, 9980, 9989, 9990, 9991, 9995, 9998, 9999, 10000} {
					ticks, code := impl.TicksAbove(z, zone, least, end)
					check(t, fmt.Sprint(z, zone, least, end), []int64{ticks, code}, []int64{counts[end], impl.OK})
				}
			}
		}
	}
}

// Promise 9: the first tick that is told has the level for all its ticks; no earlier one has.
func TestFirstTickHasTheLevelForAllTicks(t *testing.T) {
	r := rand.New(rand.NewPCG(3, 9))
	counts := map[string]int{}
	for _, z := range drawnZoned(4, 1500, 0, 1, 7) {
		for range 20 {
			zone, least := r.Int64N(z.Zones), []int64{-30, -29, 0, 1, 10, 11, 20}[r.IntN(7)]
			from, ticks := r.Int64N(50), 1+r.Int64N([]int64{2, 6, 20}[r.IntN(3)])
			first, code := impl.FirstAbove(z, zone, least, from, ticks)
			name := fmt.Sprint(z, zone, least, from, ticks)
			check(t, name, []int64{first, code}, firstBySpec(levelsBySpec(z, zone, 80), least, from, ticks))
			if code == impl.OK {
				checkLevelFor(t, z, zone, least, first, ticks)
			}
			counts[kindOfFirst(first, from, code)]++
		}
	}
	if counts["none"] < 1000 || counts["at once"] < 1000 || counts["later"] < 1000 {
		t.Errorf("too few of a kind: %v", counts)
	}
}

func kindOfFirst(first, from, code int64) string {
	switch {
	case code != impl.OK:
		return "none"
	case first == from:
		return "at once"
	}
	return "later"
}

// checkLevelFor asks for the level at so many ticks; behind the last tick that may be asked, levels stay as they are.
func checkLevelFor(t *testing.T, z impl.Zoned, zone, least, first, ticks int64) {
	t.Helper()
	for tick := first; tick < first+ticks; tick++ {
		level, code := impl.LevelAt(z, zone, min(tick, 10000))
		if code != impl.OK || level < least {
			t.Errorf("%v: the zone %d has %d (code %d) at %d, told are %d ticks from %d on with %d", z, zone, level, code, tick, ticks, first, least)
		}
	}
}

// The same with many ticks, which go beyond the last one.
func TestFirstTickOfMany(t *testing.T) {
	r := rand.New(rand.NewPCG(5, 9))
	for _, z := range drawnZoned(6, 60, 0, 5000, 9960, 9990, 9995, 10000) {
		for _, zone := range []int64{0, z.Zones - 1} {
			levels := levelsBySpec(z, zone, 20002)
			for range 10 {
				least, from := []int64{-30, 0, 1, 10}[r.IntN(4)], []int64{0, 1, 4990, 5003, 9950, 9991, 9995, 9999, 10000}[r.IntN(9)]
				ticks := []int64{1, 3, 10, 4990, 5000, 9000, 9990, 9999, 10000}[r.IntN(9)]
				first, code := impl.FirstAbove(z, zone, least, from, ticks)
				check(t, fmt.Sprint(z, zone, least, from, ticks), []int64{first, code}, firstBySpec(levels, least, from, ticks))
				if code == impl.OK {
					checkLevelFor(t, z, zone, least, first, ticks)
				}
			}
		}
	}
}

// As many ticks as are counted follow one another just if the first tick that is told is the beginning.
func TestCountedTicksAreThoseThatAreTold(t *testing.T) {
	for _, z := range drawnZoned(7, 500, 0, 3, 30) {
		for zone := range z.Zones {
			for _, least := range []int64{-30, 0, 1, 10} {
				sum, from := int64(0), int64(0)
				for from < 100 {
					first, code := impl.FirstAbove(z, zone, least, from, 1)
					if code != impl.OK || first >= 100 {
						break
					}
					sum++
					from = first + 1
				}
				ticks, code := impl.TicksAbove(z, zone, least, 100)
				check(t, fmt.Sprint(z, zone, least), []int64{ticks, code}, []int64{sum, impl.OK})
			}
		}
	}
}

// tubesBySpec are the tubes that are such.
func tubesBySpec(z impl.Zoned, isSuch func(zone int64) bool) []int64 {
	var tubes []int64
	for tube := range z.Of {
		if isSuch(z.Of[tube]) {
			tubes = append(tubes, int64(tube))
		}
	}
	return tubes
}

func TestTubesOneByOne(t *testing.T) {
	for _, z := range drawnZoned(8, 500, 0, 2) {
		for zone := range z.Zones {
			tubes, code := impl.TubesOfZone(z, zone)
			check(t, fmt.Sprint(z, zone), code, int64(impl.OK))
			check(t, fmt.Sprint(z, zone), tubes, tubesBySpec(z, func(other int64) bool { return other == zone }))
		}
		for tick := range int64(50) {
			pushed, code := impl.PushedAt(z, tick)
			check(t, fmt.Sprint(z, tick), code, int64(impl.OK))
			check(t, fmt.Sprint(z, tick), pushed, tubesBySpec(z, func(zone int64) bool { return levelBySpec(z, zone, tick) != 0 }))
		}
	}
}

func drawnZonedWay(r *rand.Rand, z impl.Zoned) []int64 {
	if len(z.Of) == 0 || r.IntN(8) == 0 {
		return nil
	}
	return drawnWay(r, len(z.Of), []int{1, 2, 3, 24}[r.IntN(4)])
}

// readyBySpec looks, tick by tick, for all zones of the way among those with a level.
func readyBySpec(z impl.Zoned, way []int64, from int64) []int64 {
	for tick := from; tick <= 10000; tick++ {
		if !slices.ContainsFunc(way, func(tube int64) bool { return levelBySpec(z, z.Of[tube], tick) == 0 }) {
			return foundAt(tick)
		}
	}
	return foundAt(-1)
}

func TestReadyTickByTick(t *testing.T) {
	r := rand.New(rand.NewPCG(9, 9))
	counts := map[string]int{}
	for _, z := range drawnZoned(10, 300, 0, 5, 9950, 9999) {
		for range 5 {
			way := drawnZonedWay(r, z)
			from := r.Int64N(60) + []int64{0, 9941}[r.IntN(2)]
			ready, code := impl.ReadyAt(z, way, from)
			check(t, fmt.Sprint(z, way, from), []int64{ready, code}, readyBySpec(z, way, from))
			counts[kindOfFirst(ready, from, code)]++
		}
	}
	if counts["none"] < 100 || counts["at once"] < 100 || counts["later"] < 100 {
		t.Errorf("too few of a kind: %v", counts)
	}
}

func TestCrossedZonesOneByOne(t *testing.T) {
	r := rand.New(rand.NewPCG(11, 9))
	for _, z := range drawnZoned(12, 1000, 0) {
		way, want := drawnZonedWay(r, z), int64(0)
		last := int64(-1)
		for _, tube := range way {
			if last >= 0 && last != z.Of[tube] {
				want++
			}
			last = z.Of[tube]
		}
		crossed, code := impl.ZonesCrossed(z, way)
		check(t, fmt.Sprint(z, way), []int64{crossed, code}, []int64{want, impl.OK})
	}
}

// withoutChange leaves out one change.
func withoutChange(z impl.Zoned, i int) impl.Zoned {
	return zoned(z.Zones, z.Of, slices.Delete(slices.Clone(z.Changes), i, i+1)...)
}

// A change is needless just if no level is another one without it; and if it is added again, all is as before.
func TestNeedlessChangesOneByOne(t *testing.T) {
	needless := 0
	for _, z := range drawnZoned(13, 300, 0, 2) {
		var want []int64
		for i, c := range z.Changes {
			less := withoutChange(z, i)
			check(t, fmt.Sprint(z, c), impl.ValidZoned(less), true)
			if slices.Equal(levelsBySpec(less, c.Zone, 60), levelsBySpec(z, c.Zone, 60)) {
				want = append(want, int64(i))
			}
			again, code := impl.AddChange(less, c)
			check(t, fmt.Sprint(z, c), []any{impl.SameZoned(again, z), code}, []any{true, int64(impl.OK)})
			checkNotAdded(t, z, c, impl.ErrExists)
		}
		got, code := impl.NeedlessChanges(z)
		check(t, fmt.Sprint(z), code, int64(impl.OK))
		check(t, fmt.Sprint(z), got, want)
		needless += len(got)
	}
	if needless < 300 {
		t.Errorf("only %d changes are needless", needless)
	}
}

// Changes that are added in any order are at last in the only one that is valid.
func TestChangesAddedInAnyOrder(t *testing.T) {
	r := rand.New(rand.NewPCG(14, 9))
	for _, want := range drawnZoned(15, 300, 0, 9990) {
		z := zoned(want.Zones, want.Of)
		for _, i := range drawnOrder(r, len(want.Changes)) {
			added, code := impl.AddChange(z, want.Changes[i])
			check(t, fmt.Sprint(z), code, int64(impl.OK))
			check(t, fmt.Sprint(z), impl.ValidZoned(added), true)
			z = added
		}
		check(t, fmt.Sprint(want), impl.SameZoned(z, want), true)
	}
}

// zoneResults calls every function of chapter 9.
func zoneResults(x zoneArgs) []any {
	all := []any{impl.ValidZoned(x.z), impl.SameZoned(x.z, x.z), impl.SameZoned(x.z, zoned(1, x.way)), impl.ChangeText(x.c)}
	calls := zoneCalls(x)
	for _, name := range allZoneCalls {
		all = append(all, calls[name]...)
	}
	return all
}

// drawnZoneArgs are valid and invalid arguments around some zones.
func drawnZoneArgs(r *rand.Rand, z impl.Zoned) zoneArgs {
	number := func(most int64) int64 {
		if r.IntN(6) > 0 {
			return r.Int64N(most + 1)
		}
		list := append([]int64{-101, -100, 100, 101, 9999, 10000, 10001}, hostileNumbers...)
		return list[r.IntN(len(list))]
	}
	zone := func() int64 { return number(min(7, max(0, z.Zones-1))) }
	x := zoneArgs{z: z, c: change(number(50), zone(), number(20)), zone: zone(), tick: number(50), least: number(20), end: number(50), from: number(50), ticks: 1 + number(20)}
	for range r.IntN(26) {
		x.way = append(x.way, r.Int64N(int64(max(1, len(z.Of)))))
	}
	if len(x.way) > 0 && r.IntN(4) == 0 {
		x.way[r.IntN(len(x.way))] = number(30)
	}
	return x
}

// Promise 1 for chapter 9.
func TestZonesKeepArguments(t *testing.T) {
	r := rand.New(rand.NewPCG(16, 9))
	for _, z := range slices.Concat(cornerZoned(), roomyZoned(), invalidZoned(), drawnZoned(17, 500, 0, 3, 9990)) {
		for range 5 {
			checkZonesKept(t, drawnZoneArgs(r, z))
		}
		checkZonesKept(t, goodArgs(z))
	}
}

func checkZonesKept(t *testing.T, x zoneArgs) {
	t.Helper()
	given := x
	var changes [3]func() bool
	given.z.Of, changes[0] = guarded(x.z.Of, 77)
	given.z.Changes, changes[1] = guarded(x.z.Changes, change(7, 77, 7))
	given.way, changes[2] = guarded(x.way, 77)
	checkResultsKept(t, brief(x), func() []any { return zoneResults(given) }, changes[:]...)
}

// Two changes that are added to the same zones, which have unused capacity, do not disturb each other.
func TestUnusedCapacityOfChangesIsKept(t *testing.T) {
	room := append(make([]impl.Change, 0, 60), change(1, 0, 1), change(3, 0, 3), change(5, 0, 5))
	of := append(make([]int64, 0, 24), 0, 1)
	z := zoned(2, of, room...)
	var added []impl.Zoned
	for tick := int64(0); tick <= 6; tick += 2 {
		one, code := impl.AddChange(z, change(tick, 1, 9))
		check(t, "code", code, int64(impl.OK))
		added = append(added, one)
	}
	check(t, "capacity", room[:60][3:], make([]impl.Change, 57))
	check(t, "tubes", of[:24][2:], make([]int64, 22))
	check(t, "given", z, zoned(2, []int64{0, 1}, change(1, 0, 1), change(3, 0, 3), change(5, 0, 5)))
	for i, one := range added {
		check(t, fmt.Sprint(i), one, zoned(2, []int64{0, 1}, slices.Insert(slices.Clone(z.Changes), i, change(int64(i)*2, 1, 9))...))
	}
}

// One list that is given as tubes of zones and as a way is returned by no function.
func TestSharedTubesOfZonesAreKept(t *testing.T) {
	shared := []int64{1, 2, 0, 0}
	x := goodArgs(zoned(3, shared, change(1, 0, 5), change(2, 1, 5), change(4, 2, 5)))
	x.way, x.tick = shared, 9
	want := zoneResults(x)
	spoil(zoneResults(x))
	check(t, "shared", shared, []int64{1, 2, 0, 0})
	check(t, "results", zoneResults(x), want)
	ready, code := impl.ReadyAt(x.z, x.way, 0)
	check(t, "ready", []int64{ready, code}, []int64{4, impl.OK})
}

func TestZonesAtTheSameTime(t *testing.T) {
	r := rand.New(rand.NewPCG(18, 9))
	for _, z := range drawnZoned(19, 100, 0, 3) {
		x := drawnZoneArgs(r, z)
		checkAtTheSameTime(t, fmt.Sprint(z), func() []any { return zoneResults(x) })
	}
}
