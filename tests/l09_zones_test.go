package tests

import (
	"fmt"
	"math"
	"slices"
	"testing"

	"loop.example/g01046/impl"
)

func change(tick, zone, level int64) impl.Change {
	return impl.Change{Tick: tick, Zone: zone, Level: level}
}

func zoned(zones int64, of []int64, changes ...impl.Change) impl.Zoned {
	return impl.Zoned{Zones: zones, Of: of, Changes: changes}
}

// manyChanges are changes of all zones at one tick, then at the next one, until there are as many as told.
func manyChanges(count, zones, from int64) []impl.Change {
	var changes []impl.Change
	for i := range count {
		changes = append(changes, change(from+i/zones, i%zones, i%7-3))
	}
	return changes
}

// tubesInTurn are so many tubes, one after the other in the next zone.
func tubesInTurn(count, zones int64) []int64 {
	var of []int64
	for tube := range count {
		of = append(of, tube%zones)
	}
	return of
}

// cornerZoned are valid, and lie at the limits.
func cornerZoned() []impl.Zoned {
	all := []impl.Change{change(3, 0, 1), change(3, 1, 1), change(3, 2, 1), change(3, 3, 1), change(3, 4, 1), change(3, 5, 1), change(3, 6, 1), change(3, 7, 1)}
	return []impl.Zoned{
		zoned(1, nil), zoned(8, nil), {Zones: 3, Of: []int64{}, Changes: []impl.Change{}}, zoned(1, []int64{0}), zoned(8, []int64{0, 7}), zoned(8, []int64{7}),
		zoned(1, make([]int64, 24)), zoned(8, tubesInTurn(24, 8)), zoned(2, tubesInTurn(23, 2), change(0, 1, 5)),
		zoned(1, nil, change(0, 0, 100)), zoned(1, []int64{0, 0}, change(0, 0, -100), change(10000, 0, 100)), zoned(2, []int64{1}, change(0, 0, 0), change(10000, 0, 0), change(10000, 1, 0)),
		zoned(8, []int64{7, 0}, all...), zoned(2, []int64{0, 1, 0}, change(5, 0, 20), change(9, 0, 0), change(9, 1, -10)), zoned(8, []int64{1}, change(4, 7, 1), change(5, 0, 1)),
		zoned(1, []int64{0}, manyChanges(60, 1, 0)...), zoned(8, tubesInTurn(24, 8), manyChanges(60, 8, 0)...), zoned(8, tubesInTurn(24, 8), manyChanges(60, 8, 9993)...), zoned(3, nil, manyChanges(59, 3, 700)...),
	}
}

// wrongChanges are none of so many zones.
func wrongChanges(zones int64) []impl.Change {
	var list []impl.Change
	for _, wrong := range []int64{math.MinInt64, math.MinInt64 + 1, -10000, -101, -1, 10001, 20000, math.MaxInt64 - 1, math.MaxInt64} {
		if wrong < 0 || wrong > 10000 {
			list = append(list, change(wrong, 0, 0), change(wrong, zones-1, 100))
		}
		list = append(list, change(0, wrong, 0), change(10000, wrong, 100))
		if wrong < -100 || wrong > 100 {
			list = append(list, change(0, 0, wrong), change(10000, zones-1, wrong))
		}
		list = append(list, change(wrong, wrong, wrong))
	}
	return append(list, change(0, zones, 0), change(10000, zones+1, 0), change(5, 8, 0), change(5, 9, 0), change(0, 0, 101), change(0, 0, -101), change(-1, -1, 0), change(-1, zones, 101))
}

// wrongOrderedChanges are not strictly increasing by their ticks and then by their zones.
func wrongOrderedChanges() [][]impl.Change {
	return [][]impl.Change{
		{change(5, 0, 1), change(5, 0, 1)}, {change(5, 0, 1), change(5, 0, 2)}, {change(5, 1, 1), change(5, 0, 1)}, {change(5, 0, 1), change(4, 0, 1)}, {change(5, 0, 1), change(4, 1, 1)}, {change(5, 1, 1), change(4, 0, 1)},
		{change(0, 0, 1), change(5, 0, 1), change(5, 1, 1), change(5, 1, 3)}, {change(0, 0, 1), change(5, 1, 1), change(5, 0, 1), change(6, 0, 1)}, {change(1, 0, 1), change(0, 0, 1), change(2, 0, 1)}, {change(0, 0, 0), change(0, 0, 0)}, {change(10000, 1, 0), change(10000, 1, 0)},
		{change(0, 1, 1), change(0, 0, 1)}, {change(10, 0, 1), change(9, 0, 1)},
	}
}

// invalidZoned have one fault each, or several ones.
func invalidZoned() []impl.Zoned {
	list := []impl.Zoned{
		{}, zoned(2, make([]int64, 25)), zoned(2, make([]int64, 100000)), zoned(8, tubesInTurn(25, 8), change(1, 1, 1)),
		zoned(1, nil, manyChanges(61, 1, 0)...), zoned(8, []int64{0}, manyChanges(61, 8, 0)...), zoned(8, nil, manyChanges(62, 8, 0)...), zoned(1, nil, manyChanges(1000, 1, 0)...), zoned(2, nil, make([]impl.Change, 100000)...), zoned(2, nil, make([]impl.Change, 2)...),
	}
	for _, zones := range []int64{math.MinInt64, math.MinInt64 + 1, -8, -1, 0, 9, 10, math.MaxInt64} {
		list = append(list, zoned(zones, nil), zoned(zones, []int64{0}), zoned(zones, []int64{0}, change(0, 0, 0)), zoned(zones, []int64{zones}, change(0, zones, 0)), zoned(zones, []int64{zones - 1}))
	}
	for zones := int64(1); zones <= 8; zones++ {
		valid := [][]int64{{0}, {0, zones - 1, 0}, make([]int64, 24)}
		for _, of := range withWrongNumbers(valid, math.MinInt64, -1, zones, zones+1, 8, math.MaxInt64) {
			list = append(list, zoned(zones, of), zoned(zones, of, change(5, 0, 1)))
		}
		for _, c := range wrongChanges(zones) {
			list = append(list, zoned(zones, nil, c), zoned(zones, []int64{0}, change(0, 0, 0), c), zoned(zones, []int64{0}, c, change(10000, 0, 0)))
		}
	}
	for _, changes := range wrongOrderedChanges() {
		list = append(list, zoned(2, nil, changes...), zoned(8, []int64{0, 1}, changes...))
	}
	return list
}

func TestZoneLimits(t *testing.T) {
	check(t, "limits", []int64{impl.MaxZones, impl.MaxChange, impl.MaxHorizon, impl.MaxLevel, impl.MaxTubes}, []int64{8, 60, 10000, 100, 24})
}

func TestExampleOfZones(t *testing.T) {
	z := zoned(1, nil, change(5, 0, 20), change(9, 0, 0))
	ticks, code := impl.TicksAbove(z, 0, 10, 30)
	check(t, "ticks", []int64{ticks, code}, []int64{4, impl.OK})
}

func TestValidZoned(t *testing.T) {
	for _, z := range cornerZoned() {
		check(t, fmt.Sprint(z), impl.ValidZoned(z), true)
	}
	for _, z := range invalidZoned() {
		check(t, brief(z), impl.ValidZoned(z), false)
	}
	for count := range int64(30) {
		check(t, fmt.Sprint("zones ", count), impl.ValidZoned(zoned(count, nil)), 1 <= count && count <= 8)
		check(t, fmt.Sprint("tubes ", count), impl.ValidZoned(zoned(3, tubesInTurn(count, 3))), count <= 24)
	}
	for count := range int64(70) {
		for zones := int64(1); zones <= 8; zones++ {
			check(t, fmt.Sprint("changes ", count), impl.ValidZoned(zoned(zones, nil, manyChanges(count, zones, 5)...)), count <= 60)
		}
	}
}

func TestZonesOfTubesAndChanges(t *testing.T) {
	for zones := int64(1); zones <= 8; zones++ {
		for zone := int64(-2); zone <= 10; zone++ {
			is := 0 <= zone && zone < zones
			check(t, fmt.Sprint("tube ", zones, zone), impl.ValidZoned(zoned(zones, []int64{0, zone, 0})), is)
			check(t, fmt.Sprint("change ", zones, zone), impl.ValidZoned(zoned(zones, nil, change(7, zone, 3))), is)
		}
	}
	for _, tick := range []int64{math.MinInt64, -2, -1, 0, 1, 9999, 10000, 10001, 10002, math.MaxInt64} {
		check(t, fmt.Sprint("tick ", tick), impl.ValidZoned(zoned(1, nil, change(tick, 0, 3))), 0 <= tick && tick <= 10000)
	}
	for _, level := range []int64{math.MinInt64, -102, -101, -100, -99, 0, 99, 100, 101, 102, math.MaxInt64} {
		check(t, fmt.Sprint("level ", level), impl.ValidZoned(zoned(1, nil, change(0, 0, level))), -100 <= level && level <= 100)
	}
}

func TestOrderOfChanges(t *testing.T) {
	var all []impl.Change
	for tick := range int64(4) {
		for zone := range int64(3) {
			all = append(all, change(tick, zone, zone-tick))
		}
	}
	for i, a := range all {
		for k, b := range all {
			check(t, fmt.Sprint(a, b), impl.ValidZoned(zoned(3, nil, a, b)), i < k)
			// What follows is in order, and what is in front, too.
			check(t, fmt.Sprint(a, b), impl.ValidZoned(zoned(3, nil, a, b, change(9, 0, 1))), i < k)
			if i > 0 {
				check(t, fmt.Sprint(a, b), impl.ValidZoned(zoned(3, nil, all[0], a, b)), i < k)
			}
		}
	}
}

func cloneZoned(z impl.Zoned) impl.Zoned {
	return zoned(z.Zones, slices.Clone(z.Of), slices.Clone(z.Changes)...)
}

func TestSameZoned(t *testing.T) {
	list := []impl.Zoned{
		{}, zoned(1, nil), zoned(2, nil), zoned(2, []int64{0}), zoned(2, []int64{1}), zoned(2, []int64{0, 0}), zoned(2, []int64{0, 1}), zoned(2, []int64{1, 0}), zoned(2, nil, change(0, 0, 0)), zoned(2, []int64{0}, change(0, 0, 0)),
		zoned(2, nil, change(1, 0, 0)), zoned(2, nil, change(0, 1, 0)), zoned(2, nil, change(0, 0, 1)), zoned(2, nil, change(0, 0, 0), change(0, 0, 0)), zoned(2, nil, change(0, 0, 0), change(0, 1, 0)), zoned(2, nil, change(0, 1, 0), change(0, 0, 0)), zoned(2, nil, change(0, 0, -1)),
		zoned(-1, []int64{-1}, change(-1, -1, -1)), zoned(math.MinInt64, nil), zoned(math.MaxInt64, []int64{math.MaxInt64}), zoned(9, make([]int64, 25)), zoned(9, make([]int64, 24)), zoned(1, nil, manyChanges(60, 1, 0)...), zoned(1, nil, manyChanges(61, 1, 0)...), zoned(1, nil, manyChanges(61, 1, 1)...),
	}
	for i, a := range list {
		for k, b := range list {
			check(t, fmt.Sprint(a, b), impl.SameZoned(a, cloneZoned(b)), i == k)
		}
	}
	empty := impl.Zoned{Zones: 2, Of: []int64{}, Changes: []impl.Change{}}
	check(t, "nil and empty lists", []bool{impl.SameZoned(zoned(2, nil), empty), impl.SameZoned(empty, zoned(2, nil))}, []bool{true, true})
}

// threeZones have a level that falls back to 0, one that draws and changes at the last tick, and a zone without changes.
func threeZones() impl.Zoned {
	return zoned(3, []int64{0, 1, 0, 2}, change(5, 0, 20), change(9, 0, 0), change(9, 1, -10), change(10000, 1, 100))
}

func TestLevelAt(t *testing.T) {
	early := zoned(2, nil, change(0, 0, -100), change(0, 1, 7), change(1, 0, 0), change(2, 1, 8))
	for _, c := range []struct {
		z                 impl.Zoned
		zone, tick, level int64
	}{
		{threeZones(), 0, 0, 0}, {threeZones(), 0, 4, 0}, {threeZones(), 0, 5, 20}, {threeZones(), 0, 6, 20}, {threeZones(), 0, 8, 20}, {threeZones(), 0, 9, 0}, {threeZones(), 0, 10, 0}, {threeZones(), 0, 10000, 0},
		{threeZones(), 1, 0, 0}, {threeZones(), 1, 5, 0}, {threeZones(), 1, 8, 0}, {threeZones(), 1, 9, -10}, {threeZones(), 1, 10, -10}, {threeZones(), 1, 9999, -10}, {threeZones(), 1, 10000, 100},
		{threeZones(), 2, 0, 0}, {threeZones(), 2, 9, 0}, {threeZones(), 2, 10000, 0},
		{early, 0, 0, -100}, {early, 0, 1, 0}, {early, 0, 2, 0}, {early, 0, 10000, 0}, {early, 1, 0, 7}, {early, 1, 1, 7}, {early, 1, 2, 8}, {early, 1, 10000, 8},
		{zoned(1, nil), 0, 0, 0}, {zoned(8, nil), 7, 10000, 0}, {zoned(8, nil, change(6, 7, -1)), 7, 6, -1}, {zoned(8, nil, change(6, 7, -1)), 6, 6, 0}, {zoned(1, nil, manyChanges(60, 1, 0)...), 0, 59, 0}, {zoned(1, nil, manyChanges(60, 1, 0)...), 0, 58, -1},
	} {
		level, code := impl.LevelAt(c.z, c.zone, c.tick)
		check(t, fmt.Sprint(c), []int64{level, code}, []int64{c.level, impl.OK})
	}
}

// checkAdded expects that c gets this place.
func checkAdded(t *testing.T, z impl.Zoned, c impl.Change, place int) {
	t.Helper()
	want := zoned(z.Zones, z.Of, slices.Insert(slices.Clone(z.Changes), place, c)...)
	added, code := impl.AddChange(z, c)
	check(t, fmt.Sprint(z, c), code, int64(impl.OK))
	check(t, fmt.Sprint(z, c, added), []bool{impl.SameZoned(added, want), impl.ValidZoned(added)}, []bool{true, true})
}

func checkNotAdded(t *testing.T, z impl.Zoned, c impl.Change, want int64) {
	t.Helper()
	added, code := impl.AddChange(z, c)
	check(t, fmt.Sprint(z, c), []any{added, code}, []any{impl.Zoned{}, want})
}

func TestAddChange(t *testing.T) {
	z := threeZones()
	for _, c := range []struct {
		c     impl.Change
		place int
	}{
		// First, between others, and last.
		{change(0, 0, 5), 0}, {change(0, 2, -100), 0}, {change(4, 2, 100), 0}, {change(6, 0, 1), 1}, {change(7, 1, 0), 1}, {change(8, 2, 0), 1}, {change(10, 0, 1), 3}, {change(9999, 2, 1), 3}, {change(10000, 2, -1), 4},
		// At a tick at which other zones have one.
		{change(5, 1, 1), 1}, {change(5, 2, 20), 1}, {change(9, 2, 0), 3}, {change(10000, 0, 0), 3},
	} {
		checkAdded(t, z, c.c, c.place)
	}
	checkAdded(t, zoned(1, nil), change(10000, 0, 100), 0)
	checkAdded(t, zoned(8, []int64{7, 0}), change(0, 7, -100), 0)
	checkAdded(t, zoned(3, []int64{1}, change(9, 1, 4)), change(9, 0, 4), 0)
	checkAdded(t, zoned(3, []int64{1}, change(9, 1, 4)), change(9, 2, 4), 1)
	checkAdded(t, zoned(3, []int64{1}, change(9, 0, 4), change(9, 2, 4)), change(9, 1, 4), 1)
	// A change that changes nothing is added, too.
	checkAdded(t, z, change(6, 0, 20), 1)
	checkAdded(t, zoned(1, nil), change(0, 0, 0), 0)
	for _, c := range z.Changes {
		for _, level := range []int64{c.Level, 0, -100, 100} {
			checkNotAdded(t, z, change(c.Tick, c.Zone, level), impl.ErrExists)
		}
	}
}

// All changes are from the tick 10 to the tick 17, and 60 of them go to the zone 3 there.
func TestAddLastChanges(t *testing.T) {
	for count := int64(55); count <= 60; count++ {
		z := zoned(8, []int64{0}, manyChanges(count, 8, 10)...)
		for _, c := range []impl.Change{change(0, 7, 1), change(9, 0, 1), change(100, 3, 1), change(10000, 0, 1), change(17, 7, 1)} {
			place := 0
			if c.Tick > 9 {
				place = int(count)
			}
			if count < 60 {
				checkAdded(t, z, c, place)
			} else {
				checkNotAdded(t, z, c, impl.ErrFull)
			}
		}
		// What exists, and what is no change, is told even if there are too many.
		for _, c := range z.Changes {
			checkNotAdded(t, z, change(c.Tick, c.Zone, -50), impl.ErrExists)
		}
		for _, c := range wrongChanges(8) {
			checkNotAdded(t, z, c, impl.ErrRange)
		}
	}
	// Between others, one change is missing.
	all := manyChanges(60, 8, 10)
	for place, c := range all {
		checkAdded(t, zoned(8, []int64{0}, slices.Delete(slices.Clone(all), place, place+1)...), c, place)
	}
}

func TestTubesOfZone(t *testing.T) {
	for _, c := range []struct {
		z    impl.Zoned
		zone int64
		want []int64
	}{
		{zoned(1, nil), 0, nil}, {zoned(8, nil), 7, nil}, {zoned(1, []int64{0}), 0, []int64{0}}, {zoned(2, []int64{0}), 1, nil}, {threeZones(), 0, []int64{0, 2}}, {threeZones(), 1, []int64{1}}, {threeZones(), 2, []int64{3}}, {zoned(4, []int64{3, 0, 3, 2}), 1, nil},
		{zoned(1, make([]int64, 24)), 0, counted(24)}, {zoned(8, tubesInTurn(24, 8)), 0, []int64{0, 8, 16}}, {zoned(8, tubesInTurn(24, 8)), 7, []int64{7, 15, 23}}, {zoned(2, []int64{1, 1, 0, 1}, change(0, 0, 5)), 1, []int64{0, 1, 3}},
	} {
		tubes, code := impl.TubesOfZone(c.z, c.zone)
		check(t, fmt.Sprint(c), code, int64(impl.OK))
		check(t, fmt.Sprint(c), tubes, c.want)
	}
}

func TestPushedAt(t *testing.T) {
	eight := zoned(8, tubesInTurn(24, 8), change(0, 3, 1), change(5, 7, -1), change(6, 3, 0), change(6, 7, 0), change(10000, 0, 100))
	all := zoned(1, make([]int64, 24), change(7, 0, -100), change(9, 0, 100), change(11, 0, 0))
	for _, c := range []struct {
		z    impl.Zoned
		tick int64
		want []int64
	}{
		{zoned(1, nil), 0, nil}, {zoned(8, nil, change(0, 0, 5)), 9, nil}, {zoned(1, []int64{0}), 10000, nil}, {zoned(2, []int64{0}, change(0, 1, 5)), 3, nil},
		{threeZones(), 0, nil}, {threeZones(), 4, nil}, {threeZones(), 5, []int64{0, 2}}, {threeZones(), 8, []int64{0, 2}}, {threeZones(), 9, []int64{1}}, {threeZones(), 9999, []int64{1}}, {threeZones(), 10000, []int64{1}},
		{eight, 0, []int64{3, 11, 19}}, {eight, 4, []int64{3, 11, 19}}, {eight, 5, []int64{3, 7, 11, 15, 19, 23}}, {eight, 6, nil}, {eight, 9999, nil}, {eight, 10000, []int64{0, 8, 16}},
		// A level that draws is one other than 0.
		{all, 6, nil}, {all, 7, counted(24)}, {all, 8, counted(24)}, {all, 9, counted(24)}, {all, 10, counted(24)}, {all, 11, nil}, {all, 10000, nil},
	} {
		tubes, code := impl.PushedAt(c.z, c.tick)
		check(t, fmt.Sprint(c), code, int64(impl.OK))
		check(t, fmt.Sprint(c), tubes, c.want)
	}
}

// fourLevels are 20 from 5 on, 0 from 9 on, -30 from 20 on, and 10 from 25 on; the zone 1 has no changes.
func fourLevels() impl.Zoned {
	return zoned(2, []int64{0, 1}, change(5, 0, 20), change(9, 0, 0), change(20, 0, -30), change(25, 0, 10))
}

func TestTicksAbove(t *testing.T) {
	early, late := zoned(1, nil, change(0, 0, 50)), zoned(1, nil, change(10000, 0, 50))
	for _, c := range []struct {
		z                      impl.Zoned
		zone, least, end, want int64
	}{
		// Just before, at and behind changes.
		{fourLevels(), 0, 10, 0, 0}, {fourLevels(), 0, 10, 4, 0}, {fourLevels(), 0, 10, 5, 0}, {fourLevels(), 0, 10, 6, 1}, {fourLevels(), 0, 10, 8, 3}, {fourLevels(), 0, 10, 9, 4}, {fourLevels(), 0, 10, 10, 4}, {fourLevels(), 0, 10, 25, 4}, {fourLevels(), 0, 10, 26, 5}, {fourLevels(), 0, 10, 30, 9}, {fourLevels(), 0, 10, 10000, 9979},
		// Just at a level, and one beyond.
		{fourLevels(), 0, 11, 10000, 4}, {fourLevels(), 0, 19, 10000, 4}, {fourLevels(), 0, 20, 10000, 4}, {fourLevels(), 0, 21, 10000, 0}, {fourLevels(), 0, 100, 10000, 0}, {fourLevels(), 0, 1, 24, 4},
		// A least level of 0, and less: what is before the first change counts.
		{fourLevels(), 0, 0, 0, 0}, {fourLevels(), 0, 0, 1, 1}, {fourLevels(), 0, 0, 5, 5}, {fourLevels(), 0, 0, 20, 20}, {fourLevels(), 0, 0, 21, 20}, {fourLevels(), 0, 0, 25, 20}, {fourLevels(), 0, 0, 26, 21}, {fourLevels(), 0, 0, 10000, 9995},
		{fourLevels(), 0, -1, 10000, 9995}, {fourLevels(), 0, -29, 10000, 9995}, {fourLevels(), 0, -30, 10000, 10000}, {fourLevels(), 0, -31, 22, 22}, {fourLevels(), 0, -100, 10000, 10000}, {fourLevels(), 0, -100, 0, 0},
		// No changes of the zone.
		{fourLevels(), 1, 0, 7, 7}, {fourLevels(), 1, 1, 10000, 0}, {fourLevels(), 1, 0, 10000, 10000}, {fourLevels(), 1, -100, 1, 1}, {zoned(8, nil), 7, 0, 3, 3},
		// Changes at the first tick and at the last one.
		{early, 0, 50, 0, 0}, {early, 0, 50, 1, 1}, {early, 0, 50, 10000, 10000}, {early, 0, 51, 10000, 0}, {late, 0, 50, 10000, 0}, {late, 0, 0, 10000, 10000}, {late, 0, -1, 9999, 9999},
	} {
		ticks, code := impl.TicksAbove(c.z, c.zone, c.least, c.end)
		check(t, fmt.Sprint(c), []int64{ticks, code}, []int64{c.want, impl.OK})
	}
}

// foundAt is a tick with its code; -1 stands for none.
func foundAt(tick int64) []int64 {
	if tick < 0 {
		return []int64{0, impl.ErrNotFound}
	}
	return []int64{tick, impl.OK}
}

// firstCase tells the first tick in a zone; -1 if there is none.
type firstCase struct{ zone, least, from, ticks, want int64 }

func checkFirst(t *testing.T, z impl.Zoned, cases ...firstCase) {
	t.Helper()
	for _, c := range cases {
		first, code := impl.FirstAbove(z, c.zone, c.least, c.from, c.ticks)
		check(t, fmt.Sprint(z, c), []int64{first, code}, foundAt(c.want))
	}
}

func TestFirstAbove(t *testing.T) {
	checkFirst(t, fourLevels(),
		// Ticks that just fit between two changes, and one too many.
		firstCase{0, 10, 0, 1, 5}, firstCase{0, 10, 0, 4, 5}, firstCase{0, 10, 0, 5, 25}, firstCase{0, 20, 0, 4, 5}, firstCase{0, 20, 0, 5, -1}, firstCase{0, 0, 0, 20, 0}, firstCase{0, 0, 0, 21, 25}, firstCase{0, 0, 1, 19, 1}, firstCase{0, 0, 1, 20, 25},
		// Reached at the tick itself, earlier, later, and never.
		firstCase{0, 10, 5, 4, 5}, firstCase{0, 10, 4, 4, 5}, firstCase{0, 10, 6, 3, 6}, firstCase{0, 10, 6, 4, 25}, firstCase{0, 10, 8, 1, 8}, firstCase{0, 10, 8, 2, 25}, firstCase{0, 10, 9, 1, 25}, firstCase{0, 10, 24, 1, 25}, firstCase{0, 10, 25, 9, 25}, firstCase{0, 10, 26, 9, 26},
		firstCase{0, 20, 6, 3, 6}, firstCase{0, 20, 6, 4, -1}, firstCase{0, 20, 9, 1, -1}, firstCase{0, 20, 10000, 1, -1}, firstCase{0, 21, 0, 1, -1}, firstCase{0, 100, 0, 10000, -1},
		firstCase{0, 0, 19, 1, 19}, firstCase{0, 0, 19, 2, 25}, firstCase{0, 0, 20, 1, 25}, firstCase{0, -1, 20, 1, 25}, firstCase{0, -29, 22, 1, 25}, firstCase{0, -30, 22, 1, 22},
		// Beyond the last tick.
		firstCase{0, 10, 0, 10000, 25}, firstCase{0, 10, 9999, 10000, 9999}, firstCase{0, 10, 10000, 10000, 10000}, firstCase{0, 10, 10000, 1, 10000}, firstCase{0, -30, 0, 10000, 0}, firstCase{0, -100, 7777, 10000, 7777},
		// No changes of the zone.
		firstCase{1, 0, 3, 10000, 3}, firstCase{1, 0, 0, 1, 0}, firstCase{1, -100, 10000, 10000, 10000}, firstCase{1, 1, 0, 1, -1}, firstCase{1, 1, 10000, 10000, -1},
	)
}

func TestFirstAboveOverSeveralChanges(t *testing.T) {
	high := zoned(2, nil, change(5, 0, 20), change(6, 1, -50), change(7, 0, 30), change(9, 0, 20), change(11, 0, 40), change(12, 0, 19), change(13, 1, 50))
	checkFirst(t, high,
		firstCase{0, 20, 0, 7, 5}, firstCase{0, 20, 0, 8, -1}, firstCase{0, 20, 6, 6, 6}, firstCase{0, 20, 6, 7, -1}, firstCase{0, 20, 11, 1, 11}, firstCase{0, 20, 11, 2, -1},
		firstCase{0, 30, 0, 2, 7}, firstCase{0, 30, 0, 3, -1}, firstCase{0, 30, 8, 1, 8}, firstCase{0, 30, 9, 1, 11}, firstCase{0, 31, 0, 1, 11}, firstCase{0, 40, 0, 1, 11}, firstCase{0, 40, 0, 2, -1}, firstCase{0, 41, 0, 1, -1},
		firstCase{0, 19, 0, 10000, 5}, firstCase{0, 19, 8, 10000, 8}, firstCase{0, 0, 0, 10000, 0}, firstCase{1, 0, 0, 6, 0}, firstCase{1, 0, 0, 7, 13}, firstCase{1, 0, 1, 6, 13},
	)
	// A change that changes nothing does not break the ticks.
	checkFirst(t, zoned(1, nil, change(5, 0, 20), change(7, 0, 20), change(9, 0, 0), change(10, 0, 0)), firstCase{0, 20, 0, 4, 5}, firstCase{0, 20, 6, 3, 6}, firstCase{0, 20, 0, 5, -1}, firstCase{0, 0, 0, 10000, 0})
}

func TestFirstAboveAtTheLimits(t *testing.T) {
	checkFirst(t, zoned(1, nil, change(10000, 0, 50)), firstCase{0, 50, 0, 1, 10000}, firstCase{0, 50, 0, 10000, 10000}, firstCase{0, 50, 10000, 10000, 10000}, firstCase{0, 51, 0, 1, -1}, firstCase{0, 0, 0, 10000, 0}, firstCase{0, 0, 10000, 10000, 10000})
	checkFirst(t, zoned(1, nil, change(10000, 0, -50)), firstCase{0, 0, 0, 10000, 0}, firstCase{0, 0, 1, 9999, 1}, firstCase{0, 0, 1, 10000, -1}, firstCase{0, 0, 9999, 1, 9999}, firstCase{0, 0, 9999, 2, -1}, firstCase{0, 0, 10000, 1, -1}, firstCase{0, -50, 10000, 10000, 10000})
	checkFirst(t, zoned(1, nil, change(0, 0, 50), change(10000, 0, 0)), firstCase{0, 50, 0, 10000, 0}, firstCase{0, 1, 1, 10000, -1}, firstCase{0, 1, 1, 9999, 1}, firstCase{0, 50, 10000, 1, -1}, firstCase{0, 0, 1, 10000, 1})
	checkFirst(t, zoned(1, nil, change(0, 0, -1), change(1, 0, 0)), firstCase{0, 0, 0, 1, 1}, firstCase{0, 0, 0, 10000, 1}, firstCase{0, -1, 0, 1, 0}, firstCase{0, 1, 0, 1, -1})
	// The zone 7 has -3, -2, -1 and so on from 9993 on, and the zone 3 has 0, 1, 2, 3, -3, -2, -1 and 0.
	checkFirst(t, zoned(8, nil, manyChanges(60, 8, 9993)...),
		firstCase{7, 4, 0, 1, -1}, firstCase{7, 3, 0, 1, 9999}, firstCase{7, 3, 0, 10000, 9999}, firstCase{7, 2, 0, 1, 9998}, firstCase{7, 0, 0, 9993, 0}, firstCase{7, 0, 0, 9994, 9996},
		firstCase{3, 3, 0, 1, 9996}, firstCase{3, 3, 0, 2, -1}, firstCase{3, 1, 0, 3, 9994}, firstCase{3, 1, 0, 4, -1}, firstCase{3, 0, 0, 9997, 0}, firstCase{3, 0, 0, 9998, 10000}, firstCase{3, 0, 9997, 1, 10000},
	)
}

func TestNeedlessChanges(t *testing.T) {
	for _, c := range []struct {
		changes []impl.Change
		want    []int64
	}{
		{nil, nil},
		// First ones to 0.
		{[]impl.Change{change(0, 0, 0)}, []int64{0}}, {[]impl.Change{change(10000, 1, 0)}, []int64{0}}, {[]impl.Change{change(5, 0, 0), change(6, 0, 0)}, []int64{0, 1}}, {[]impl.Change{change(0, 0, 5), change(1, 1, 0)}, []int64{1}}, {[]impl.Change{change(0, 0, 0), change(1, 0, 5), change(2, 0, 0)}, []int64{0}},
		{[]impl.Change{change(0, 0, 1)}, nil}, {[]impl.Change{change(0, 0, -1)}, nil}, {[]impl.Change{change(7, 1, 100)}, nil},
		{[]impl.Change{change(0, 0, 5), change(1, 0, 5)}, []int64{1}}, {[]impl.Change{change(0, 0, 5), change(9000, 0, 5)}, []int64{1}}, {[]impl.Change{change(0, 0, 5), change(1, 0, -5)}, nil}, {[]impl.Change{change(0, 0, 5), change(1, 0, 0), change(2, 0, 5)}, nil}, {[]impl.Change{change(0, 0, 5), change(1, 0, 5), change(2, 0, 5)}, []int64{1, 2}},
		{[]impl.Change{change(0, 0, 5), change(1, 0, 0), change(2, 0, 0)}, []int64{2}}, {[]impl.Change{change(0, 0, 5), change(1, 0, 6), change(2, 0, 5)}, nil}, {[]impl.Change{change(0, 0, -100), change(5, 0, -100)}, []int64{1}},
		// Other zones do not matter, nor do they at the same tick.
		{[]impl.Change{change(0, 0, 5), change(0, 1, 5)}, nil}, {[]impl.Change{change(0, 0, 5), change(1, 1, 5)}, nil}, {[]impl.Change{change(0, 0, 5), change(0, 1, 5), change(3, 0, 5), change(3, 1, 5)}, []int64{2, 3}}, {[]impl.Change{change(0, 0, 5), change(0, 1, 6), change(3, 0, 6), change(3, 1, 5)}, nil}, {[]impl.Change{change(5, 0, 0), change(6, 1, 7), change(7, 0, 0), change(8, 1, 7)}, []int64{0, 2, 3}},
		{[]impl.Change{change(4, 0, 5), change(5, 1, 9), change(6, 0, 5)}, []int64{2}},
	} {
		for zones := int64(2); zones <= 8; zones += 6 {
			needless, code := impl.NeedlessChanges(zoned(zones, []int64{1}, c.changes...))
			check(t, fmt.Sprint(c), code, int64(impl.OK))
			check(t, fmt.Sprint(c), needless, c.want)
		}
	}
	all := manyChanges(60, 8, 0)
	for i := range all {
		all[i].Level = 0
	}
	needless, code := impl.NeedlessChanges(zoned(8, nil, all...))
	check(t, "all", []any{needless, code}, []any{counted(60), int64(impl.OK)})
	needless, code = impl.NeedlessChanges(zoned(1, nil, manyChanges(60, 1, 0)...))
	check(t, "none", []any{len(needless), code}, []any{0, int64(impl.OK)})
}

func TestZonesCrossed(t *testing.T) {
	for _, c := range []struct {
		z    impl.Zoned
		way  []int64
		want int64
	}{
		{zoned(1, nil), nil, 0}, {zoned(8, nil), []int64{}, 0}, {threeZones(), nil, 0}, {threeZones(), []int64{3}, 0}, {threeZones(), []int64{0, 2}, 0}, {threeZones(), []int64{0, 1}, 1}, {threeZones(), []int64{1, 0}, 1}, {threeZones(), []int64{0, 2, 1, 0}, 2}, {threeZones(), []int64{0, 1, 2, 3}, 3}, {threeZones(), []int64{0, 1, 0, 1}, 3},
		// The same tube several times, and the zones of the first and the last tube.
		{threeZones(), []int64{1, 1, 1}, 0}, {threeZones(), []int64{0, 0, 3, 3}, 1}, {threeZones(), []int64{3, 0, 2, 3}, 2}, {threeZones(), slices.Repeat([]int64{1}, 24), 0}, {threeZones(), slices.Repeat([]int64{1, 0}, 12), 23}, {threeZones(), slices.Repeat([]int64{0, 2}, 12), 0},
		{zoned(8, tubesInTurn(24, 8)), counted(24), 23}, {zoned(1, make([]int64, 24)), counted(24), 0}, {zoned(8, tubesInTurn(24, 8)), []int64{0, 8, 16, 23, 7}, 1},
	} {
		crossed, code := impl.ZonesCrossed(c.z, c.way)
		check(t, fmt.Sprint(c), []int64{crossed, code}, []int64{c.want, impl.OK})
	}
}

// readyCase tells when a way is ready; -1 if it never is.
type readyCase struct {
	way        []int64
	from, want int64
}

func checkReady(t *testing.T, z impl.Zoned, cases ...readyCase) {
	t.Helper()
	for _, c := range cases {
		ready, code := impl.ReadyAt(z, c.way, c.from)
		check(t, fmt.Sprint(z, c), []int64{ready, code}, foundAt(c.want))
	}
}

func TestReadyAt(t *testing.T) {
	// The zone 0 has a level from 5 to 8 and from 12 on, the zone 1 from 7 to 14, and the zone 2 never.
	checkReady(t, zoned(3, []int64{0, 1, 2, 0}, change(5, 0, 20), change(7, 1, -10), change(9, 0, 0), change(12, 0, 1), change(15, 1, 0)),
		readyCase{nil, 0, 0}, readyCase{nil, 3, 3}, readyCase{[]int64{}, 10000, 10000},
		readyCase{[]int64{0}, 0, 5}, readyCase{[]int64{0}, 4, 5}, readyCase{[]int64{0}, 5, 5}, readyCase{[]int64{3}, 6, 6}, readyCase{[]int64{0}, 8, 8}, readyCase{[]int64{3}, 9, 12}, readyCase{[]int64{0}, 11, 12}, readyCase{[]int64{0}, 12, 12}, readyCase{[]int64{0}, 13, 13}, readyCase{[]int64{0}, 10000, 10000},
		readyCase{[]int64{1}, 0, 7}, readyCase{[]int64{1}, 14, 14}, readyCase{[]int64{1}, 15, -1}, readyCase{[]int64{1}, 10000, -1}, readyCase{[]int64{2}, 0, -1}, readyCase{[]int64{2}, 10000, -1},
		// One after the other: the last one decides, as long as the others are still ready.
		readyCase{[]int64{0, 1}, 0, 7}, readyCase{[]int64{1, 0}, 8, 8}, readyCase{[]int64{1, 3}, 9, 12}, readyCase{[]int64{0, 1}, 14, 14}, readyCase{[]int64{0, 1}, 15, -1}, readyCase{[]int64{0, 2}, 0, -1}, readyCase{[]int64{1, 2}, 7, -1}, readyCase{[]int64{2, 0, 1}, 0, -1},
		// The same tube, and the same zone, several times.
		readyCase{[]int64{1, 0, 1, 3}, 0, 7}, readyCase{[]int64{0, 3, 0}, 0, 5}, readyCase{slices.Repeat([]int64{0}, 24), 0, 5}, readyCase{slices.Repeat([]int64{1, 3}, 12), 9, 12}, readyCase{append(slices.Repeat([]int64{0}, 23), 2), 0, -1},
	)
}

func TestReadyTogether(t *testing.T) {
	three := []int64{0, 1, 2}
	// All at once.
	checkReady(t, zoned(3, three, change(4, 0, 1), change(4, 1, -1), change(4, 2, 100)), readyCase{three, 0, 4}, readyCase{three, 4, 4}, readyCase{three, 5, 5}, readyCase{[]int64{2, 1}, 0, 4})
	checkReady(t, zoned(8, tubesInTurn(24, 8), manyChanges(60, 8, 9993)...), readyCase{counted(24), 0, -1}, readyCase{[]int64{0, 8, 16}, 0, 9993}, readyCase{[]int64{3}, 0, 9994}, readyCase{[]int64{0, 2, 4}, 0, 9993}, readyCase{[]int64{0, 3}, 0, 9994})
	// Never all together: one begins as the other one ends.
	checkReady(t, zoned(3, three, change(1, 0, 5), change(3, 0, 0), change(3, 1, 5)), readyCase{[]int64{0, 1}, 0, -1}, readyCase{[]int64{0, 1}, 3, -1}, readyCase{[]int64{0}, 0, 1}, readyCase{[]int64{1}, 0, 3})
	checkReady(t, zoned(3, three, change(1, 0, 5), change(3, 1, 5), change(4, 0, 0)), readyCase{[]int64{0, 1}, 0, 3}, readyCase{[]int64{0, 1}, 4, -1})
	checkReady(t, zoned(2, []int64{0, 1}, change(2, 0, 5), change(3, 0, 0), change(3, 1, 5), change(4, 0, 5), change(4, 1, 0)), readyCase{[]int64{0, 1}, 0, -1})
	// At the first tick and at the last one.
	checkReady(t, zoned(2, []int64{0, 1}, change(0, 0, 1), change(10000, 1, 1)), readyCase{[]int64{0}, 0, 0}, readyCase{[]int64{1}, 0, 10000}, readyCase{[]int64{0, 1}, 0, 10000}, readyCase{[]int64{0, 1}, 10000, 10000}, readyCase{[]int64{0}, 10000, 10000})
	checkReady(t, zoned(2, []int64{0, 1}, change(0, 0, 1), change(10000, 0, 0)), readyCase{[]int64{0}, 9999, 9999}, readyCase{[]int64{0}, 10000, -1})
	// A change from one level to another one, or to the same one, makes no difference.
	checkReady(t, zoned(1, []int64{0}, change(2, 0, 0), change(3, 0, 5), change(5, 0, -5), change(7, 0, -5), change(9, 0, 0)), readyCase{[]int64{0}, 0, 3}, readyCase{[]int64{0}, 4, 4}, readyCase{[]int64{0}, 6, 6}, readyCase{[]int64{0}, 8, 8}, readyCase{[]int64{0}, 9, -1})
	// No tubes, and no changes.
	checkReady(t, zoned(1, nil), readyCase{nil, 7, 7})
	checkReady(t, zoned(8, []int64{7}), readyCase{nil, 7, 7}, readyCase{[]int64{0}, 0, -1})
}

func TestChangeText(t *testing.T) {
	for _, c := range []struct {
		c    impl.Change
		text string
	}{
		{change(9, 1, -10), "9: zone 1 at -10"}, {change(0, 0, 0), "0: zone 0 at 0"}, {change(10000, 7, 100), "10000: zone 7 at 100"}, {change(9999, 7, -100), "9999: zone 7 at -100"}, {change(1, 6, 99), "1: zone 6 at 99"}, {change(120, 3, -7), "120: zone 3 at -7"},
		{change(9, 8, 0), ""}, {change(9, 9, 0), ""}, {change(9, -1, 0), ""}, {change(-1, 0, 0), ""}, {change(10001, 0, 0), ""}, {change(0, 0, 101), ""}, {change(0, 0, -101), ""},
	} {
		check(t, fmt.Sprint(c.c), impl.ChangeText(c.c), c.text)
	}
	for _, c := range wrongChanges(8) {
		check(t, fmt.Sprint(c), impl.ChangeText(c), "")
	}
}

// zoneArgs are arguments for all functions of chapter 9.
type zoneArgs struct {
	z                                   impl.Zoned
	c                                   impl.Change
	way                                 []int64
	zone, tick, least, end, from, ticks int64
}

// zoneCalls are the functions of chapter 9; each returns its results, the code last.
func zoneCalls(x zoneArgs) map[string][]any {
	calls := map[string][]any{}
	put := func(name string, results ...any) { calls[name] = results }
	level, code := impl.LevelAt(x.z, x.zone, x.tick)
	put("LevelAt", level, code)
	added, code := impl.AddChange(x.z, x.c)
	put("AddChange", added, code)
	tubes, code := impl.TubesOfZone(x.z, x.zone)
	put("TubesOfZone", tubes, code)
	pushed, code := impl.PushedAt(x.z, x.tick)
	put("PushedAt", pushed, code)
	sum, code := impl.TicksAbove(x.z, x.zone, x.least, x.end)
	put("TicksAbove", sum, code)
	first, code := impl.FirstAbove(x.z, x.zone, x.least, x.from, x.ticks)
	put("FirstAbove", first, code)
	needless, code := impl.NeedlessChanges(x.z)
	put("NeedlessChanges", needless, code)
	crossed, code := impl.ZonesCrossed(x.z, x.way)
	put("ZonesCrossed", crossed, code)
	ready, code := impl.ReadyAt(x.z, x.way, x.from)
	put("ReadyAt", ready, code)
	return calls
}

var allZoneCalls = []string{"LevelAt", "AddChange", "TubesOfZone", "PushedAt", "TicksAbove", "FirstAbove", "NeedlessChanges", "ZonesCrossed", "ReadyAt"}

// checkOthersOK expects OK of all functions but those that are named.
func checkOthersOK(t *testing.T, x zoneArgs, names ...string) {
	t.Helper()
	for name, results := range zoneCalls(x) {
		if !slices.Contains(names, name) {
			check(t, fmt.Sprint(name, x), results[len(results)-1], int64(impl.OK))
		}
	}
}

// checkOutOfRange expects ErrRange of the functions that are named, and OK of all others.
func checkOutOfRange(t *testing.T, x zoneArgs, names ...string) {
	t.Helper()
	checkErrorResults(t, zoneCalls(x), impl.ErrRange, names...)
	checkOthersOK(t, x, names...)
}

// roomyZoned have room for one more change, a free place at the tick 500, and tubes that are always ready at the end.
func roomyZoned() []impl.Zoned {
	return []impl.Zoned{
		zoned(1, []int64{0}, change(10000, 0, -1)), zoned(2, []int64{1, 0}, change(0, 1, 5), change(9999, 0, 5)), zoned(8, tubesInTurn(24, 8), manyChanges(59, 8, 9992)[56:]...), zoned(8, make([]int64, 24), manyChanges(59, 8, 0)...),
	}
}

// goodArgs give OK in all functions.
func goodArgs(z impl.Zoned) zoneArgs {
	return zoneArgs{z: z, c: change(500, 0, 7), way: []int64{0}, least: -100, ticks: 1}
}

func TestGoodZoneArgs(t *testing.T) {
	for _, z := range roomyZoned() {
		last := z.Zones - 1
		for _, zone := range []int64{0, last} {
			for _, tick := range []int64{0, 1, 9999, 10000} {
				x := goodArgs(z)
				x.zone, x.tick, x.end = zone, tick, tick
				checkOthersOK(t, x)
				x.from, x.way = tick, nil
				checkOthersOK(t, x)
			}
			for _, c := range []impl.Change{change(500, zone, -100), change(9000, zone, 100)} {
				x := goodArgs(z)
				x.c = c
				checkOthersOK(t, x)
			}
		}
		for _, ticks := range []int64{1, 2, 9999, 10000} {
			x := goodArgs(z)
			x.ticks = ticks
			checkOthersOK(t, x)
		}
		for _, least := range []int64{-100, -99, 0, 99, 100} {
			x := goodArgs(z)
			x.least = least
			checkOthersOK(t, x, "FirstAbove")
		}
		for _, count := range []int{0, 1, 2, 23, 24} {
			x := goodArgs(z)
			x.way = slices.Repeat([]int64{0}, count)
			checkOthersOK(t, x)
		}
	}
}

// Invalid zones go before everything else.
func TestInvalidZoned(t *testing.T) {
	for _, z := range invalidZoned() {
		checkErrorResults(t, zoneCalls(goodArgs(z)), impl.ErrInvalid, allZoneCalls...)
		for _, number := range []int64{math.MinInt64, -1, 0, 8, 24, 10001, math.MaxInt64} {
			for _, way := range [][]int64{nil, {-1}, {number}, make([]int64, 25)} {
				x := zoneArgs{z: z, c: change(number, number, number), way: way, zone: number, tick: number, least: number, end: number, from: number, ticks: number}
				checkErrorResults(t, zoneCalls(x), impl.ErrInvalid, allZoneCalls...)
			}
		}
		// Also where the change exists, or there are too many.
		for _, c := range z.Changes[:min(len(z.Changes), 3)] {
			x := goodArgs(z)
			x.c = c
			checkErrorResults(t, zoneCalls(x), impl.ErrInvalid, "AddChange")
		}
	}
}

func TestZoneRangeErrors(t *testing.T) {
	for _, z := range roomyZoned() {
		for _, number := range []int64{math.MinInt64, math.MinInt64 + 1, -10001, -10000, -101, -1, 10001, 10002, 20000, math.MaxInt64 - 1, math.MaxInt64} {
			x := goodArgs(z)
			x.zone = number
			checkOutOfRange(t, x, "LevelAt", "TubesOfZone", "TicksAbove", "FirstAbove")
			x = goodArgs(z)
			x.tick = number
			checkOutOfRange(t, x, "LevelAt", "PushedAt")
			x = goodArgs(z)
			x.end = number
			checkOutOfRange(t, x, "TicksAbove")
			x = goodArgs(z)
			x.from = number
			checkOutOfRange(t, x, "FirstAbove", "ReadyAt")
			x = goodArgs(z)
			x.ticks = number
			checkOutOfRange(t, x, "FirstAbove")
			if number < -100 || number > 100 {
				x = goodArgs(z)
				x.least = number
				checkOutOfRange(t, x, "TicksAbove", "FirstAbove")
			}
		}
		checkOtherRangeErrors(t, z)
	}
}

// checkOtherRangeErrors asks for what is no zone just of z, no ticks, levels one beyond the limits, changes and ways.
func checkOtherRangeErrors(t *testing.T, z impl.Zoned) {
	t.Helper()
	for _, zone := range []int64{z.Zones, z.Zones + 1, 8} {
		x := goodArgs(z)
		x.zone = zone
		checkOutOfRange(t, x, "LevelAt", "TubesOfZone", "TicksAbove", "FirstAbove")
	}
	x := goodArgs(z)
	x.ticks = 0
	checkOutOfRange(t, x, "FirstAbove")
	for _, least := range []int64{-101, 101} {
		x = goodArgs(z)
		x.least = least
		checkOutOfRange(t, x, "TicksAbove", "FirstAbove")
	}
	for _, c := range wrongChanges(z.Zones) {
		x = goodArgs(z)
		x.c = c
		checkOutOfRange(t, x, "AddChange")
	}
	for _, way := range wrongZonedWays(int64(len(z.Of))) {
		x = goodArgs(z)
		x.way = way
		checkOutOfRange(t, x, "ZonesCrossed", "ReadyAt")
	}
}

// wrongZonedWays have a number that is none of so many tubes, or more numbers than there may be.
func wrongZonedWays(tubes int64) [][]int64 {
	list := [][]int64{make([]int64, 25), make([]int64, 26), make([]int64, 100000)}
	valid := [][]int64{{0}, {0, tubes - 1, 0}, make([]int64, 24)}
	return append(list, withWrongNumbers(valid, math.MinInt64, -1, tubes, tubes+1, 24, math.MaxInt64)...)
}

// A wrong argument is told even if there is nothing to be found.
func TestZoneRangeGoesBeforeNotFound(t *testing.T) {
	z := zoned(2, []int64{0, 1}, change(3, 1, 5))
	for _, number := range []int64{math.MinInt64, -1, 10001, math.MaxInt64} {
		never := zoneArgs{z: z, way: []int64{0}, least: 1, ticks: 1}
		checkErrorResults(t, zoneCalls(never), impl.ErrNotFound, "FirstAbove", "ReadyAt")
		x := never
		x.from = number
		checkErrorResults(t, zoneCalls(x), impl.ErrRange, "FirstAbove", "ReadyAt")
		x = never
		x.ticks, x.way = number, []int64{0, number}
		checkErrorResults(t, zoneCalls(x), impl.ErrRange, "FirstAbove", "ReadyAt")
		x = never
		x.zone, x.way = number, append(make([]int64, 24), 1)
		checkErrorResults(t, zoneCalls(x), impl.ErrRange, "FirstAbove", "ReadyAt")
	}
	// No tubes: each number is none.
	for _, zones := range []int64{1, 8} {
		for _, way := range [][]int64{{0}, {-1}, {1}, {0, 0}} {
			checkErrorResults(t, zoneCalls(zoneArgs{z: zoned(zones, nil), way: way}), impl.ErrRange, "ZonesCrossed", "ReadyAt")
		}
	}
}
