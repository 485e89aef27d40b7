package tests

import (
	"fmt"
	"math"
	"slices"
	"strings"
	"testing"

	"loop.example/g01046/impl"
)

func blower(power, hour, start int64) impl.Blower {
	return impl.Blower{Power: power, Hour: hour, Start: start}
}

// blowers have in turn what they have as Power, Hour and Start.
func blowers(numbers ...int64) []impl.Blower {
	var list []impl.Blower
	for three := range slices.Chunk(numbers, 3) {
		list = append(list, blower(three[0], three[1], three[2]))
	}
	return list
}

// sameBlowers are so many equal ones.
func sameBlowers(count int, power, hour, start int64) []impl.Blower {
	return slices.Repeat(blowers(power, hour, start), count)
}

// sameHours have the same number in each of them.
func sameHours(count int, number int64) []int64 { return slices.Repeat([]int64{number}, count) }

// allSets is how many sets there are; the greatest one is less by 1.
func allSets(list []impl.Blower) int64 { return 1 << len(list) }

// cornerBlowers are valid, and lie at the limits.
func cornerBlowers() [][]impl.Blower {
	return [][]impl.Blower{
		nil, {}, blowers(1, 0, 0), blowers(1000, 10000, 10000), blowers(1, 10000, 0), blowers(1, 0, 10000), blowers(10, 5, 7), blowers(10, 5, 0, 25, 8, 1), blowers(1, 1, 1, 2, 2, 2, 4, 4, 4),
		sameBlowers(4, 1, 0, 0), sameBlowers(4, 1000, 10000, 10000), sameBlowers(4, 250, 7, 7), blowers(1, 0, 10000, 1000, 10000, 0, 10, 5, 7, 25, 8, 1), sameBlowers(3, 10, 0, 5), sameBlowers(2, 500, 5, 0),
	}
}

// invalidBlowers have one wrong number each, or are too many.
func invalidBlowers() [][]impl.Blower {
	list := [][]impl.Blower{sameBlowers(5, 1, 0, 0), sameBlowers(5, 10, 5, 7), sameBlowers(6, 1000, 10000, 10000), sameBlowers(100000, 1, 1, 1), sameBlowers(5, 0, -1, -1), {{}}, {{}, {}}, append(sameBlowers(3, 1, 1, 1), impl.Blower{})}
	for count := 1; count <= 4; count++ {
		for place := range count {
			for _, wrong := range []int64{math.MinInt64, math.MinInt64 + 1, -1, 0, 1001, 1002, math.MaxInt64} {
				list = append(list, withBlower(count, place, blower(wrong, 5, 7)))
			}
			for _, wrong := range []int64{math.MinInt64, math.MinInt64 + 1, -2, -1, 10001, 10002, math.MaxInt64} {
				list = append(list, withBlower(count, place, blower(10, wrong, 7)), withBlower(count, place, blower(10, 5, wrong)))
			}
		}
	}
	return list
}

// withBlower are so many valid ones, but for one.
func withBlower(count, place int, b impl.Blower) []impl.Blower {
	list := sameBlowers(count, 10, 5, 7)
	list[place] = b
	return list
}

// cornerNeeds are valid, and lie at the limits.
func cornerNeeds() [][]int64 {
	return [][]int64{nil, {}, {0}, {1}, {1000}, {10, 0, 10}, {0, 0, 1000, 0, 0}, sameHours(23, 9), sameHours(24, 0), sameHours(24, 1), sameHours(24, 1000), counted(24), slices.Repeat([]int64{0, 20}, 12)}
}

func invalidNeeds() [][]int64 {
	list := [][]int64{sameHours(25, 0), sameHours(25, 1000), sameHours(26, 7), sameHours(100000, 1)}
	valid := [][]int64{{0}, {10, 0, 10}, sameHours(24, 1000)}
	return append(list, withWrongNumbers(valid, math.MinInt64, math.MinInt64+1, -2, -1, 1001, 1002, math.MaxInt64)...)
}

// wrongSets are no sets of the blowers.
func wrongSets(list []impl.Blower) []int64 {
	all := allSets(list)
	return []int64{math.MinInt64, math.MinInt64 + 1, -16, -2, -1, all, all + 1, 16, 17, 1 << 32, math.MaxInt64 - 1, math.MaxInt64}
}

// wrongDays have one wrong set each, or too many ones.
func wrongDays(list []impl.Blower) [][]int64 {
	last := allSets(list) - 1
	days := [][]int64{sameHours(25, 0), sameHours(25, last), sameHours(26, last), sameHours(100000, 0)}
	valid := [][]int64{{0}, {last}, {last, 0, last}, sameHours(24, last)}
	return append(days, withWrongNumbers(valid, wrongSets(list)...)...)
}

// wrongBlowers are the numbers of no blower.
func wrongBlowers(list []impl.Blower) []int64 {
	count := int64(len(list))
	return []int64{math.MinInt64, math.MinInt64 + 1, -2, -1, count, count + 1, 4, 5, 63, 64, math.MaxInt64 - 1, math.MaxInt64}
}

func wrongPowers() []int64 {
	return []int64{math.MinInt64, math.MinInt64 + 1, -2, -1, 1001, 1002, 4000, math.MaxInt64 - 1, math.MaxInt64}
}

func TestBlowerLimits(t *testing.T) {
	check(t, "limits", []int64{impl.MaxHoursDay, impl.MaxBlowers, impl.MaxPower, impl.MaxStartup}, []int64{24, 4, 1000, 10000})
}

func TestExampleOfBlowers(t *testing.T) {
	cost, code := impl.CostOfDay(blowers(10, 5, 7), []int64{1, 1, 0, 1})
	check(t, "cost", []int64{cost, code}, []int64{29, impl.OK})
}

func TestValidBlowers(t *testing.T) {
	for _, list := range cornerBlowers() {
		check(t, fmt.Sprint(list), impl.ValidBlowers(list), true)
	}
	for _, list := range invalidBlowers() {
		check(t, brief(list), impl.ValidBlowers(list), false)
	}
	for count := range 12 {
		check(t, fmt.Sprint(count), impl.ValidBlowers(sameBlowers(count, 3, 2, 1)), count <= 4)
	}
	for number := int64(-20); number <= 10020; number++ {
		check(t, fmt.Sprint("power ", number), impl.ValidBlowers(blowers(1, 1, 1, number, 1, 1)), 1 <= number && number <= 1000)
		check(t, fmt.Sprint("hour ", number), impl.ValidBlowers(blowers(1, number, 1, 1, 1, 1)), 0 <= number && number <= 10000)
		check(t, fmt.Sprint("start ", number), impl.ValidBlowers(blowers(1, 1, 1, 1, 1, number)), 0 <= number && number <= 10000)
	}
}

func TestValidNeeds(t *testing.T) {
	for _, needs := range cornerNeeds() {
		check(t, fmt.Sprint(needs), impl.ValidNeeds(needs), true)
	}
	for _, needs := range invalidNeeds() {
		check(t, brief(needs), impl.ValidNeeds(needs), false)
	}
	for count := range 50 {
		check(t, fmt.Sprint(count), impl.ValidNeeds(sameHours(count, 3)), count <= 24)
	}
	for need := int64(-20); need <= 1020; need++ {
		check(t, fmt.Sprint("need ", need), impl.ValidNeeds([]int64{need, 5}), 0 <= need && need <= 1000)
	}
}

func TestPowerOf(t *testing.T) {
	for set := range int64(16) {
		power, code := impl.PowerOf(blowers(1, 9, 9, 2, 9, 9, 4, 9, 9, 8, 9, 9), set)
		check(t, fmt.Sprint(set), []int64{power, code}, []int64{set, impl.OK})
	}
	for _, c := range []struct {
		list       []impl.Blower
		set, power int64
	}{
		{nil, 0, 0}, {blowers(10, 5, 7), 0, 0}, {blowers(10, 5, 7), 1, 10}, {blowers(10, 5, 0, 25, 8, 1), 2, 25}, {blowers(10, 5, 0, 25, 8, 1), 3, 35}, {blowers(1, 0, 0, 1, 0, 0, 1000, 0, 0), 4, 1000}, {sameBlowers(4, 1000, 0, 0), 15, 4000}, {sameBlowers(4, 1000, 0, 0), 11, 3000},
	} {
		power, code := impl.PowerOf(c.list, c.set)
		check(t, fmt.Sprint(c), []int64{power, code}, []int64{c.power, impl.OK})
	}
}

func TestCostOfDay(t *testing.T) {
	one, two := blowers(10, 5, 7), blowers(10, 5, 7, 25, 100, 1000)
	for _, c := range []struct {
		list []impl.Blower
		sets []int64
		cost int64
	}{
		{nil, nil, 0}, {nil, sameHours(24, 0), 0}, {one, nil, 0}, {one, []int64{0}, 0}, {one, []int64{1}, 12}, {one, []int64{0, 0, 1}, 12}, {one, []int64{1, 0, 0}, 12}, {one, []int64{1, 1}, 17}, {one, []int64{1, 0, 1}, 24}, {one, sameHours(24, 1), 127}, {one, sameHours(24, 0), 0},
		// Nothing else than the set of the hour before tells which blowers start.
		{two, []int64{1, 2}, 1112}, {two, []int64{2, 1}, 1112}, {two, []int64{1, 3}, 1117}, {two, []int64{3, 1}, 1117}, {two, []int64{3, 3}, 1217}, {two, []int64{3, 0, 3}, 2224}, {two, []int64{1, 2, 1}, 1124}, {two, []int64{2, 3, 2}, 1312}, {two, []int64{2, 0, 0, 2}, 2200},
		{blowers(1, 0, 7), []int64{1, 1, 0, 1}, 14}, {blowers(1, 5, 0), []int64{1, 1, 0, 1}, 15}, {blowers(1, 0, 0), []int64{1, 1, 0, 1}, 0},
		{sameBlowers(4, 1, 10000, 10000), sameHours(24, 15), 1000000}, {sameBlowers(4, 1, 10000, 10000), slices.Repeat([]int64{15, 0}, 12), 960000}, {sameBlowers(4, 1, 10000, 10000), slices.Repeat([]int64{5, 10}, 12), 960000},
		{blowers(1, 1, 10, 1, 100, 1000, 1, 0, 0, 1, 0, 3), []int64{8, 7, 1, 9, 8, 8}, 3 + 11 + 1100 + 1 + 1 + 3},
	} {
		cost, code := impl.CostOfDay(c.list, c.sets)
		check(t, fmt.Sprint(c), []int64{cost, code}, []int64{c.cost, impl.OK})
	}
}

func TestMeetsNeeds(t *testing.T) {
	two, four := blowers(10, 5, 7, 25, 100, 1000), sameBlowers(4, 250, 1, 1)
	for _, c := range []struct {
		list        []impl.Blower
		needs, sets []int64
		meets       bool
	}{
		{nil, nil, nil, true}, {nil, []int64{0, 0}, []int64{0, 0}, true}, {nil, []int64{0, 1}, []int64{0, 0}, false}, {two, nil, nil, true}, {two, []int64{0}, []int64{0}, true}, {two, []int64{0}, []int64{3}, true}, {two, []int64{1}, []int64{0}, false},
		// Just enough, and one more than there is, in the first, a middle and the last hour.
		{two, []int64{10, 25, 35, 0}, []int64{1, 2, 3, 0}, true}, {two, []int64{11, 25, 35, 0}, []int64{1, 2, 3, 0}, false}, {two, []int64{10, 26, 35, 0}, []int64{1, 2, 3, 0}, false}, {two, []int64{10, 25, 36, 0}, []int64{1, 2, 3, 0}, false}, {two, []int64{10, 25, 35, 1}, []int64{1, 2, 3, 0}, false},
		{two, []int64{9, 24, 34, 0}, []int64{1, 2, 3, 3}, true}, {two, []int64{35, 35}, []int64{1, 2}, false}, {two, []int64{25, 10}, []int64{1, 2}, false}, {two, []int64{10, 25}, []int64{1, 2}, true},
		{four, sameHours(24, 1000), sameHours(24, 15), true}, {four, sameHours(24, 1000), append(sameHours(23, 15), 7), false}, {four, sameHours(24, 1000), append([]int64{14}, sameHours(23, 15)...), false}, {four, sameHours(24, 750), slices.Repeat([]int64{7, 11, 13, 14}, 6), true}, {four, sameHours(24, 751), slices.Repeat([]int64{7, 11, 13, 14}, 6), false},
	} {
		meets, code := impl.MeetsNeeds(c.list, c.needs, c.sets)
		check(t, fmt.Sprint(c), []any{meets, code}, []any{c.meets, int64(impl.OK)})
	}
}

// dayCase is a day with its first cheapest sets; sets of nil with needs tell that there are none.
type dayCase struct {
	list        []impl.Blower
	needs, sets []int64
	cost        int64
}

func checkDay(t *testing.T, c dayCase) {
	t.Helper()
	name := fmt.Sprint(c.list, c.needs)
	sets, cost, code := impl.BestDay(c.list, c.needs)
	check(t, name, sets, c.sets)
	want := int64(impl.OK)
	if len(c.sets) < len(c.needs) {
		want = impl.ErrNotFound
	}
	check(t, name, []int64{cost, code}, []int64{c.cost, want})
}

func TestDaysOfOneBlower(t *testing.T) {
	one := blowers(10, 5, 7)
	for _, c := range []dayCase{
		{nil, nil, nil, 0}, {nil, []int64{0}, []int64{0}, 0}, {nil, sameHours(24, 0), sameHours(24, 0), 0}, {one, nil, nil, 0}, {one, []int64{0}, []int64{0}, 0}, {one, []int64{1}, []int64{1}, 12}, {one, []int64{10}, []int64{1}, 12}, {one, sameHours(24, 10), sameHours(24, 1), 127}, {one, sameHours(24, 0), sameHours(24, 0), 0},
		// No set meets the need of the first hour, of a middle one, and of the last one.
		{nil, []int64{1}, nil, 0}, {nil, []int64{0, 0, 1}, nil, 0}, {one, []int64{11}, nil, 0}, {one, []int64{11, 0, 0}, nil, 0}, {one, []int64{0, 11, 0}, nil, 0}, {one, []int64{0, 0, 11}, nil, 0}, {one, append(sameHours(23, 10), 11), nil, 0}, {one, append([]int64{11}, sameHours(23, 10)...), nil, 0}, {one, sameHours(24, 1000), nil, 0},
		// Hours without a need before, between and behind others.
		{one, []int64{0, 0, 10}, []int64{0, 0, 1}, 12}, {one, []int64{10, 0, 0}, []int64{1, 0, 0}, 12}, {one, []int64{0, 10, 0}, []int64{0, 1, 0}, 12}, {one, []int64{0, 10, 0, 10, 0}, []int64{0, 1, 1, 1, 0}, 22}, {one, append(sameHours(23, 0), 10), append(sameHours(23, 0), 1), 12}, {one, append([]int64{10}, sameHours(23, 0)...), append([]int64{1}, sameHours(23, 0)...), 12},
		// To run through an hour is cheaper than to start again; through two hours, it is dearer; and both may cost the same.
		{one, []int64{10, 10, 0, 10}, sameHours(4, 1), 27}, {one, []int64{10, 0, 0, 10}, []int64{1, 0, 0, 1}, 24}, {one, []int64{10, 0, 10, 0, 0, 10, 0, 10, 0}, []int64{1, 1, 1, 0, 0, 1, 1, 1, 0}, 44}, {blowers(10, 5, 70), []int64{10, 0, 10}, sameHours(3, 1), 85}, {blowers(10, 5, 4), []int64{10, 0, 10}, []int64{1, 0, 1}, 18}, {blowers(10, 5, 6), []int64{10, 0, 10}, sameHours(3, 1), 21},
		{blowers(10, 7, 7), []int64{10, 0, 10}, []int64{1, 0, 1}, 28}, {blowers(10, 7, 14), []int64{10, 0, 0, 10}, []int64{1, 0, 0, 1}, 42}, {blowers(10, 7, 14), []int64{10, 0, 0, 10, 0, 10}, []int64{1, 0, 0, 1, 1, 1}, 56}, {blowers(10, 7, 14), []int64{10, 0, 0, 0, 10}, []int64{1, 0, 0, 0, 1}, 42}, {blowers(10, 7, 7), slices.Repeat([]int64{0, 1}, 12), slices.Repeat([]int64{0, 1}, 12), 168},
		// Hours that cost nothing, starts that cost nothing, and both.
		{blowers(10, 0, 7), []int64{10, 0, 10}, sameHours(3, 1), 7}, {blowers(10, 0, 7), []int64{10, 0, 0}, []int64{1, 0, 0}, 7}, {blowers(10, 0, 7), []int64{0, 10, 0, 0, 10, 0}, []int64{0, 1, 1, 1, 1, 0}, 7}, {blowers(10, 0, 7), append(append([]int64{10}, sameHours(22, 0)...), 10), sameHours(24, 1), 7},
		{blowers(10, 5, 0), []int64{10, 0, 10}, []int64{1, 0, 1}, 10}, {blowers(10, 5, 0), []int64{10, 10, 0}, []int64{1, 1, 0}, 10}, {blowers(10, 0, 0), []int64{10, 0, 10}, []int64{1, 0, 1}, 0}, {blowers(10, 0, 0), []int64{0, 10, 0}, []int64{0, 1, 0}, 0},
		{blowers(1000, 10000, 10000), sameHours(24, 1000), sameHours(24, 1), 250000}, {blowers(1000, 10000, 10000), slices.Repeat([]int64{1000, 0}, 12), slices.Repeat([]int64{1, 0}, 12), 240000}, {blowers(1, 0, 10000), slices.Repeat([]int64{0, 1}, 12), append([]int64{0}, sameHours(23, 1)...), 10000},
	} {
		checkDay(t, c)
	}
}

func TestDaysOfSeveralBlowers(t *testing.T) {
	two, dear := blowers(10, 5, 0, 25, 8, 1), blowers(10, 1, 9, 20, 5, 1)
	for _, c := range []dayCase{
		{two, []int64{10, 10}, []int64{1, 1}, 10}, {two, []int64{20}, []int64{2}, 9}, {two, []int64{25}, []int64{2}, 9}, {two, []int64{26}, []int64{3}, 14}, {two, []int64{0, 0, 10, 0}, []int64{0, 0, 1, 0}, 5}, {two, []int64{25, 10, 25}, []int64{2, 1, 2}, 23},
		// Just one set has enough power, and none if one more is needed.
		{two, []int64{35}, []int64{3}, 14}, {two, []int64{36}, nil, 0}, {two, []int64{35, 0, 35}, []int64{3, 0, 3}, 28}, {two, []int64{36, 0, 35}, nil, 0}, {two, []int64{35, 36, 35}, nil, 0}, {two, []int64{35, 0, 36}, nil, 0}, {blowers(1, 1, 0, 2, 2, 0, 4, 4, 0, 8, 8, 0), []int64{15, 14, 13, 12, 1}, []int64{15, 14, 13, 12, 1}, 55}, {blowers(1, 1, 0, 2, 2, 0, 4, 4, 0, 8, 8, 0), []int64{15, 16}, nil, 0},
		// What is cheaper depends on how many hours are behind the first one.
		{dear, []int64{10}, []int64{2}, 6}, {dear, []int64{10, 10}, []int64{1, 1}, 11}, {dear, []int64{10, 10, 10}, []int64{1, 1, 1}, 12}, {dear, []int64{10, 10, 0, 0}, []int64{1, 1, 0, 0}, 11}, {dear, []int64{10, 0, 0, 0}, []int64{2, 0, 0, 0}, 6}, {dear, []int64{10, 11, 10}, []int64{2, 2, 2}, 16}, {dear, []int64{10, 0, 10, 0}, []int64{1, 1, 1, 0}, 12}, {dear, []int64{10, 0, 20, 0}, []int64{2, 0, 2, 0}, 12},
		{dear, []int64{10, 10, 10, 20, 10, 10}, []int64{1, 1, 1, 3, 1, 1}, 21}, {dear, []int64{20, 20, 20, 10}, []int64{2, 2, 2, 2}, 21},
		// Another blower runs on, because it must start anyway, or has started.
		{blowers(10, 5, 0, 25, 8, 4), []int64{25, 10, 25}, []int64{2, 2, 2}, 28}, {blowers(10, 5, 3, 25, 5, 3), []int64{10, 25}, []int64{2, 2}, 13}, {blowers(10, 5, 3, 25, 5, 3), []int64{25, 10}, []int64{2, 2}, 13}, {blowers(10, 5, 3, 25, 5, 3), []int64{10, 10}, []int64{1, 1}, 13},
		{blowers(1000, 10000, 0, 1000, 0, 10000), sameHours(1, 1000), []int64{1}, 10000}, {blowers(1000, 10000, 0, 1000, 0, 10000), sameHours(2, 1000), []int64{2, 2}, 10000},
		{sameBlowers(4, 250, 10000, 10000), sameHours(24, 1000), sameHours(24, 15), 1000000}, {sameBlowers(4, 250, 10000, 10000), slices.Repeat([]int64{1000, 0}, 12), slices.Repeat([]int64{15, 0}, 12), 960000}, {sameBlowers(4, 250, 10000, 10000), sameHours(24, 750), sameHours(24, 7), 750000},
	} {
		checkDay(t, c)
	}
}

func TestDaysWithEquallyGoodSets(t *testing.T) {
	for _, c := range []dayCase{
		// They differ in the first hour, in a middle one, and in the last one.
		{blowers(10, 5, 1, 25, 6, 9), []int64{10, 25}, []int64{1, 2}, 21}, {blowers(10, 5, 1, 25, 6, 9), []int64{10, 25, 25}, []int64{1, 2, 2}, 27}, {blowers(10, 5, 0, 25, 8, 3), []int64{25, 10, 25}, []int64{2, 1, 2}, 27}, {blowers(10, 7, 7), []int64{10, 0, 10}, []int64{1, 0, 1}, 28}, {blowers(10, 5, 1, 25, 6, 9), []int64{25, 10}, []int64{2, 1}, 21}, {blowers(10, 5, 1, 25, 6, 9), []int64{25, 25, 10}, []int64{2, 2, 1}, 27}, {blowers(10, 0, 1), []int64{10, 0}, []int64{1, 0}, 1},
		// The first ones are not those that are the first ones from the last hour on, and in the last hour of all there is a choice again.
		{sameBlowers(2, 10, 5, 7), []int64{10, 20, 10}, []int64{1, 3, 1}, 34}, {sameBlowers(2, 10, 5, 7), []int64{10, 10, 20}, []int64{1, 1, 3}, 34}, {sameBlowers(2, 10, 5, 7), []int64{20, 10, 10}, []int64{3, 1, 1}, 34}, {sameBlowers(3, 10, 5, 7), []int64{10, 0, 0, 20}, []int64{1, 0, 0, 3}, 36}, {sameBlowers(3, 10, 0, 7), []int64{10, 20, 10, 30}, []int64{1, 3, 3, 7}, 21},
		{sameBlowers(2, 10, 5, 5), []int64{10, 0, 10}, []int64{1, 0, 1}, 20}, {blowers(10, 5, 5, 10, 5, 3), []int64{10, 0, 10}, []int64{2, 0, 2}, 16}, {blowers(10, 5, 3, 10, 3, 5), []int64{10}, []int64{1}, 8}, {blowers(10, 4, 5, 10, 3, 6), []int64{10, 10}, []int64{2, 2}, 12}, {blowers(10, 3, 6, 10, 4, 5), []int64{0, 10, 0}, []int64{0, 1, 0}, 9},
		// All cost nothing: the least set with enough power runs in each hour.
		{sameBlowers(4, 10, 0, 0), []int64{10, 0, 40, 20, 30, 0, 1}, []int64{1, 0, 15, 3, 7, 0, 1}, 0}, {blowers(10, 0, 0, 20, 0, 0, 30, 0, 0), []int64{30, 60, 21, 50, 11}, []int64{3, 7, 3, 6, 2}, 0}, {sameBlowers(4, 1000, 0, 0), sameHours(24, 1000), sameHours(24, 1), 0},
		// Hours that cost nothing: a blower runs on, but only until it is needed for the last time, and only if it saves a start.
		{blowers(10, 0, 5, 20, 0, 5), []int64{20, 0, 10, 0}, []int64{2, 2, 2, 0}, 5}, {blowers(10, 0, 5, 20, 0, 5), []int64{10, 0, 20, 0, 10}, []int64{2, 2, 2, 2, 2}, 5}, {blowers(10, 0, 5, 20, 0, 5), []int64{30, 0, 10, 0, 30, 0}, []int64{3, 3, 3, 3, 3, 0}, 10}, {blowers(10, 0, 5, 20, 0, 0), []int64{30, 0, 10, 0}, []int64{3, 0, 2, 0}, 5}, {blowers(10, 0, 0, 20, 0, 5), []int64{30, 10, 20}, []int64{3, 2, 2}, 5},
	} {
		checkDay(t, c)
	}
}

func TestCheapestHour(t *testing.T) {
	two, dear := blowers(10, 5, 0, 25, 8, 1), blowers(10, 1, 9, 20, 5, 1)
	for _, c := range []struct {
		list      []impl.Blower
		need, set int64
	}{
		{nil, 0, 0}, {two, 0, 0}, {two, 1, 1}, {two, 10, 1}, {two, 11, 2}, {two, 25, 2}, {two, 26, 3}, {two, 35, 3}, {dear, 0, 0}, {dear, 1, 2}, {dear, 10, 2}, {dear, 20, 2}, {dear, 21, 3}, {dear, 30, 3},
		// It has its start to pay, too.
		{blowers(10, 5, 6, 10, 10, 0), 10, 2}, {blowers(10, 10, 0, 10, 5, 6), 10, 1}, {blowers(10, 0, 10000, 10, 9999, 0), 1, 2}, {blowers(10, 9999, 0, 10, 0, 10000), 1, 1},
		// Several ones cost the same.
		{blowers(10, 5, 1, 10, 4, 2), 10, 1}, {blowers(10, 4, 2, 10, 5, 1), 10, 1}, {blowers(10, 4, 0, 10, 2, 0, 20, 6, 0), 20, 3}, {blowers(20, 6, 0, 10, 4, 0, 10, 2, 0), 20, 1}, {blowers(10, 0, 0, 10, 0, 0), 0, 0}, {blowers(10, 0, 0, 10, 0, 0), 10, 1}, {blowers(10, 0, 0, 10, 0, 0), 20, 3}, {blowers(10, 0, 0, 20, 0, 0), 20, 2}, {blowers(5, 0, 0, 20, 0, 0, 15, 0, 0), 20, 2}, {blowers(5, 0, 0, 15, 0, 0, 20, 0, 0), 20, 3},
		// The cheapest one has more power than the least one, and more blowers are cheaper than fewer ones.
		{blowers(10, 9, 0, 1000, 8, 0), 1, 2}, {blowers(10, 3, 0, 10, 3, 0, 20, 7, 0), 20, 3}, {blowers(20, 7, 0, 10, 3, 0, 10, 3, 0), 20, 6}, {sameBlowers(4, 250, 1, 1), 1000, 15}, {sameBlowers(4, 250, 1, 1), 750, 7}, {sameBlowers(4, 1000, 10000, 10000), 1000, 1}, {append(sameBlowers(3, 1, 0, 0), blower(997, 10000, 10000)), 1000, 15}, {append(sameBlowers(3, 1, 0, 0), blower(997, 10000, 10000)), 4, 8},
	} {
		set, code := impl.CheapestHour(c.list, c.need)
		check(t, fmt.Sprint(c), []int64{set, code}, []int64{c.set, impl.OK})
	}
	for _, c := range []struct {
		list []impl.Blower
		need int64
	}{{nil, 1}, {nil, 1000}, {two, 36}, {two, 1000}, {dear, 31}, {sameBlowers(4, 249, 0, 0), 997}, {sameBlowers(4, 1, 1, 1), 5}} {
		set, code := impl.CheapestHour(c.list, c.need)
		check(t, fmt.Sprint(c), []int64{set, code}, []int64{0, impl.ErrNotFound})
		set, code = impl.CheapestHour(append(slices.Clone(c.list[:min(len(c.list), 3)]), blower(1000, 1, 1)), c.need)
		check(t, fmt.Sprint(c, " and a strong one"), []any{set > 0, code}, []any{true, int64(impl.OK)})
	}
}

// hourCase has # for each hour in which a blower runs, and . for each other one.
type hourCase struct {
	hours         string
	starts, many  int64
	first, length int64
}

func hourCases() []hourCase {
	return []hourCase{
		{"", 0, 0, 0, 0}, {".", 0, 0, 0, 0}, {"....", 0, 0, 0, 0}, {strings.Repeat(".", 24), 0, 0, 0, 0}, {"#", 1, 1, 0, 1}, {"#...", 1, 1, 0, 1}, {"...#", 1, 1, 3, 1}, {"####", 1, 4, 0, 4}, {".##.", 1, 2, 1, 2}, {"##.#", 2, 3, 0, 2},
		// The longest run is at the beginning, in the middle, and at the end.
		{"###.##.#", 3, 6, 0, 3}, {"#.###.##", 3, 6, 2, 3}, {".#.###.##.", 3, 6, 3, 3}, {"#.##.###", 3, 6, 5, 3}, {"##.####", 2, 6, 3, 4}, {".#..##", 2, 3, 4, 2},
		// Several ones have the same length.
		{"#.#", 2, 2, 0, 1}, {"##.##", 2, 4, 0, 2}, {".##.##", 2, 4, 1, 2}, {"#.##.##.#", 4, 6, 2, 2}, {"#.##.##", 3, 5, 2, 2}, {"##..#..##", 3, 5, 0, 2}, {"#.#.#.#", 4, 4, 0, 1},
		{strings.Repeat("#", 24), 1, 24, 0, 24}, {strings.Repeat("#.", 12), 12, 12, 0, 1}, {strings.Repeat(".#", 12), 12, 12, 1, 1}, {strings.Repeat("#", 23) + ".", 1, 23, 0, 23}, {"." + strings.Repeat("#", 23), 1, 23, 1, 23}, {"#" + strings.Repeat(".", 23), 1, 1, 0, 1}, {strings.Repeat(".", 23) + "#", 1, 1, 23, 1}, {"#." + strings.Repeat("#", 22), 2, 23, 2, 22}, {strings.Repeat("#", 12) + "." + strings.Repeat("#", 11), 2, 23, 0, 12}, {strings.Repeat("#", 11) + "." + strings.Repeat("#", 12), 2, 23, 12, 12},
	}
}

func checkHours(t *testing.T, c hourCase, list []impl.Blower, sets []int64, k int64) {
	t.Helper()
	name := fmt.Sprint(c, len(list), k, sets)
	starts, code := impl.StartsOfBlower(list, sets, k)
	check(t, name+" starts", []int64{starts, code}, []int64{c.starts, impl.OK})
	many, code := impl.HoursOfBlower(list, sets, k)
	check(t, name+" hours", []int64{many, code}, []int64{c.many, impl.OK})
	want := int64(impl.OK)
	if c.length == 0 {
		want = impl.ErrNotFound
	}
	first, length, code := impl.LongestRun(list, sets, k)
	check(t, name+" longest", []int64{first, length, code}, []int64{c.first, c.length, want})
}

// setsOfHours has a set for each hour in which the blower runs, and another one for each other hour.
func setsOfHours(hours string, runs, rests int64) []int64 {
	var sets []int64
	for _, mark := range hours {
		if mark == '#' {
			sets = append(sets, runs)
		} else {
			sets = append(sets, rests)
		}
	}
	return sets
}

// Beside the blower, the others run never, throughout, just when it does not, and just when it does.
func TestHoursOfBlowers(t *testing.T) {
	for count := 1; count <= 4; count++ {
		list := blowers(10, 5, 7, 1, 0, 0, 1000, 10000, 10000, 2, 3, 4)[:count]
		all := allSets(list) - 1
		for k := range int64(count) {
			for _, c := range hourCases() {
				checkHours(t, c, list, setsOfHours(c.hours, 1<<k, 0), k)
				checkHours(t, c, list, setsOfHours(c.hours, all, all&^(1<<k)), k)
				checkHours(t, c, list, setsOfHours(c.hours, 1<<k, all&^(1<<k)), k)
				checkHours(t, c, list, setsOfHours(c.hours, all, 0), k)
			}
		}
	}
}

func TestSetText(t *testing.T) {
	for _, c := range []struct {
		list []impl.Blower
		set  int64
		want string
	}{
		{nil, 0, ""}, {nil, 1, ""}, {blowers(1, 0, 0), 0, "-"}, {blowers(1, 0, 0), 1, "+"}, {sameBlowers(2, 1, 1, 1), 0, "--"}, {sameBlowers(2, 1, 1, 1), 1, "+-"}, {sameBlowers(2, 1, 1, 1), 2, "-+"}, {sameBlowers(2, 1, 1, 1), 3, "++"}, {sameBlowers(3, 1, 1, 1), 4, "--+"}, {sameBlowers(3, 1, 1, 1), 3, "++-"},
		{sameBlowers(4, 1000, 10000, 10000), 0, "----"}, {sameBlowers(4, 1000, 10000, 10000), 1, "+---"}, {sameBlowers(4, 1000, 10000, 10000), 8, "---+"}, {sameBlowers(4, 1000, 10000, 10000), 5, "+-+-"}, {sameBlowers(4, 1000, 10000, 10000), 10, "-+-+"}, {sameBlowers(4, 1000, 10000, 10000), 13, "+-++"}, {sameBlowers(4, 1000, 10000, 10000), 15, "++++"},
	} {
		check(t, fmt.Sprint(c), impl.SetText(c.list, c.set), c.want)
	}
	for _, list := range cornerBlowers() {
		for _, set := range wrongSets(list) {
			if set < 0 || set >= allSets(list) {
				check(t, fmt.Sprint(list, set), impl.SetText(list, set), "")
			}
		}
		for set := range allSets(list) {
			check(t, fmt.Sprint(list, set), len(impl.SetText(list, set)), len(list))
		}
	}
	for _, list := range invalidBlowers() {
		for _, set := range []int64{math.MinInt64, -1, 0, 1, 15, 16, math.MaxInt64} {
			check(t, brief(list, set), impl.SetText(list, set), "")
		}
	}
}

// dayArgs are arguments for all functions of chapter 11.
type dayArgs struct {
	list         []impl.Blower
	needs, sets  []int64
	set, k, need int64
}

// dayCalls are the functions of chapter 11 with a code; each returns its results, the code last.
func dayCalls(x dayArgs) map[string][]any {
	calls := map[string][]any{}
	put := func(name string, results ...any) { calls[name] = results }
	power, code := impl.PowerOf(x.list, x.set)
	put("PowerOf", power, code)
	cost, code := impl.CostOfDay(x.list, x.sets)
	put("CostOfDay", cost, code)
	meets, code := impl.MeetsNeeds(x.list, x.needs, x.sets)
	put("MeetsNeeds", meets, code)
	sets, cost, code := impl.BestDay(x.list, x.needs)
	put("BestDay", sets, cost, code)
	set, code := impl.CheapestHour(x.list, x.need)
	put("CheapestHour", set, code)
	starts, code := impl.StartsOfBlower(x.list, x.sets, x.k)
	put("StartsOfBlower", starts, code)
	hours, code := impl.HoursOfBlower(x.list, x.sets, x.k)
	put("HoursOfBlower", hours, code)
	first, length, code := impl.LongestRun(x.list, x.sets, x.k)
	put("LongestRun", first, length, code)
	return calls
}

var allDayCalls = []string{"PowerOf", "CostOfDay", "MeetsNeeds", "BestDay", "CheapestHour", "StartsOfBlower", "HoursOfBlower", "LongestRun"}

// goodDay has arguments for which each function returns OK, but for those that need a blower if there is none.
func goodDay(list []impl.Blower) dayArgs {
	last := allSets(list) - 1
	needs := sameHours(3, min(1, last))
	return dayArgs{list: list, needs: needs, sets: sameHours(3, last), set: last, k: int64(len(list)) - 1}
}

// withoutCalls are all functions but some.
func withoutCalls(names ...string) []string {
	return slices.DeleteFunc(slices.Clone(allDayCalls), func(name string) bool { return slices.Contains(names, name) })
}

// checkJust expects a code, with zero values, of some functions, and OK of all others.
func checkJust(t *testing.T, x dayArgs, code int64, names ...string) {
	t.Helper()
	calls := dayCalls(x)
	checkErrorResults(t, calls, code, names...)
	for _, name := range withoutCalls(names...) {
		results := calls[name]
		check(t, brief(name, x), results[len(results)-1], int64(impl.OK))
	}
}

// callsOfK are the functions that need the number of a blower, if there is no blower.
func callsOfK(list []impl.Blower) []string {
	if len(list) == 0 {
		return []string{"StartsOfBlower", "HoursOfBlower", "LongestRun"}
	}
	return nil
}

func TestGoodDays(t *testing.T) {
	for _, list := range cornerBlowers() {
		checkJust(t, goodDay(list), impl.ErrRange, callsOfK(list)...)
	}
}

// Invalid blowers go before everything else.
func TestInvalidBlowers(t *testing.T) {
	valid := blowers(10, 5, 7)
	for _, list := range invalidBlowers() {
		x := goodDay(valid)
		x.list = list
		for _, number := range []int64{math.MinInt64, -1, 0, 1, 16, 1001, math.MaxInt64} {
			x.set, x.k, x.need = number, number, number
			checkErrorResults(t, dayCalls(x), impl.ErrInvalid, allDayCalls...)
		}
		for _, sets := range wrongDays(valid)[:20] {
			checkErrorResults(t, dayCalls(dayArgs{list: list, needs: x.needs, sets: sets}), impl.ErrInvalid, allDayCalls...)
			checkErrorResults(t, dayCalls(dayArgs{list: list, needs: sets, sets: sets}), impl.ErrInvalid, allDayCalls...)
		}
		// Not found would be what no blower can do.
		checkErrorResults(t, dayCalls(dayArgs{list: list, needs: []int64{1000}, sets: []int64{0}, need: 1000}), impl.ErrInvalid, allDayCalls...)
	}
}

// Invalid needs go before sets that are none, that are too many or too few, and before needs that no set meets.
func TestInvalidNeeds(t *testing.T) {
	for _, needs := range invalidNeeds() {
		for _, list := range cornerBlowers() {
			x := goodDay(list)
			x.needs = needs
			checkErrorResults(t, dayCalls(x), impl.ErrInvalid, "MeetsNeeds", "BestDay")
			for _, sets := range [][]int64{nil, sameHours(len(needs), 0), sameHours(len(needs)+1, 0), sameHours(len(needs), -1), sameHours(len(needs), 16), sameHours(25, 0)} {
				x.sets = sets
				checkErrorResults(t, dayCalls(x), impl.ErrInvalid, "MeetsNeeds", "BestDay")
			}
		}
	}
	for _, needs := range cornerNeeds() {
		x := goodDay(sameBlowers(4, 1000, 1, 1))
		x.needs, x.sets = needs, sameHours(len(needs), 15)
		calls := dayCalls(x)
		check(t, fmt.Sprint(needs), calls["MeetsNeeds"], []any{true, int64(impl.OK)})
		check(t, fmt.Sprint(needs), calls["BestDay"][2], int64(impl.OK))
	}
}

func TestWrongSets(t *testing.T) {
	ofSets := []string{"CostOfDay", "MeetsNeeds", "StartsOfBlower", "HoursOfBlower", "LongestRun"}
	for _, list := range cornerBlowers() {
		for _, set := range wrongSets(list) {
			if set >= 0 && set < allSets(list) {
				continue
			}
			x := goodDay(list)
			x.set = set
			checkJust(t, x, impl.ErrRange, append(callsOfK(list), "PowerOf")...)
		}
		for _, sets := range wrongDays(list) {
			if len(sets) <= 24 && slices.Min(sets) >= 0 && slices.Max(sets) < allSets(list) {
				continue
			}
			x := goodDay(list)
			x.sets, x.needs = sets, sameHours(min(len(sets), 24), 0)
			checkJust(t, x, impl.ErrRange, ofSets...)
			// Also if the blower never runs, is none, or if there is no power in the hours.
			for _, k := range []int64{-1, 0, int64(len(list))} {
				x.k = k
				checkJust(t, x, impl.ErrRange, ofSets...)
			}
			x.needs = sameHours(min(len(sets), 24), 1000)
			checkErrorResults(t, dayCalls(x), impl.ErrRange, ofSets...)
		}
	}
}

func TestAsManySetsAsNeeds(t *testing.T) {
	for _, list := range cornerBlowers() {
		for hours := range 27 {
			for count := max(0, hours-2); count <= min(hours+2, 24); count++ {
				want := int64(impl.OK)
				if hours > 24 || count != hours {
					want = impl.ErrRange
				}
				meets, code := impl.MeetsNeeds(list, sameHours(count, 0), sameHours(hours, 0))
				check(t, fmt.Sprint(len(list), hours, count), []any{meets, code}, []any{want == impl.OK, want})
				meets, code = impl.MeetsNeeds(list, sameHours(count, 0), sameHours(hours, allSets(list)-1))
				check(t, fmt.Sprint(len(list), hours, count), []any{meets, code}, []any{want == impl.OK, want})
			}
		}
	}
}

func TestWrongBlowers(t *testing.T) {
	for _, list := range cornerBlowers() {
		for _, k := range wrongBlowers(list) {
			if k >= 0 && k < int64(len(list)) {
				continue
			}
			for _, sets := range [][]int64{nil, {0}, sameHours(24, 0), sameHours(24, allSets(list)-1)} {
				x := goodDay(list)
				x.sets, x.k, x.needs = sets, k, sameHours(len(sets), 0)
				checkJust(t, x, impl.ErrRange, "StartsOfBlower", "HoursOfBlower", "LongestRun")
			}
		}
		for k := range int64(len(list)) {
			x := goodDay(list)
			x.k = k
			checkJust(t, x, impl.OK)
		}
	}
}

func TestWrongPowersOfAnHour(t *testing.T) {
	for _, list := range cornerBlowers() {
		for _, need := range wrongPowers() {
			x := goodDay(list)
			x.need = need
			checkJust(t, x, impl.ErrRange, append(callsOfK(list), "CheapestHour")...)
		}
	}
}

func TestNotFoundOfBlowers(t *testing.T) {
	weak := sameBlowers(4, 249, 0, 0)
	x := dayArgs{list: weak, needs: []int64{1000, 0}, sets: []int64{7, 7}, k: 3, need: 997}
	checkErrorResults(t, dayCalls(x), impl.ErrNotFound, "BestDay", "CheapestHour", "LongestRun")
	calls := dayCalls(x)
	for _, name := range withoutCalls("BestDay", "CheapestHour", "LongestRun") {
		check(t, name, isZero(calls[name][0]) || name == "CostOfDay", true)
		check(t, name, calls[name][1], int64(impl.OK))
	}
}
