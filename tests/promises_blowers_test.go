package tests

import (
	"fmt"
	"math/rand/v2"
	"slices"
	"testing"

	"loop.example/g01046/impl"
)

// blowerDay is some blowers and what is needed in the hours of a day.
type blowerDay struct {
	list  []impl.Blower
	needs []int64
}

// drawnBlowers have few different numbers, so that many sets cost the same.
func drawnBlowers(r *rand.Rand, most int) []impl.Blower {
	var list []impl.Blower
	hour, start := []int64{1, 2, 4, 9, 10001}[r.IntN(5)], []int64{1, 3, 6, 20, 10001}[r.IntN(5)]
	for range r.IntN(most + 1) {
		list = append(list, blower(1+r.Int64N(4), r.Int64N(hour), r.Int64N(start)))
	}
	return list
}

// drawnDays have so many blowers and hours at most; many hours have no need, and few have one that no set meets.
func drawnDays(seed uint64, count, blowers, hours int) []blowerDay {
	r := rand.New(rand.NewPCG(seed, 11))
	var list []blowerDay
	for range count {
		x := blowerDay{list: drawnBlowers(r, blowers)}
		all := powerBySpec(x.list, allSets(x.list)-1)
		for range r.IntN(hours + 1) {
			need := r.Int64N(all + 1)
			switch r.IntN(30) {
			case 0:
				need = min(1000, all+r.Int64N(2))
			case 1, 2, 3, 4, 5, 6, 7, 8, 9:
				need = 0
			}
			x.needs = append(x.needs, need)
		}
		list = append(list, x)
	}
	return list
}

// smallDays are all days of so many hours with two blowers that are much alike.
func smallDays(hours int) []blowerDay {
	var days []blowerDay
	for _, list := range [][]impl.Blower{blowers(1, 1, 1, 2, 1, 1), blowers(1, 1, 1, 1, 1, 2), blowers(1, 0, 1, 2, 1, 0), blowers(2, 1, 1, 1, 0, 2), blowers(1, 1, 2, 1, 1, 1), blowers(1, 2, 1), blowers(2, 1, 2), blowers(1, 1, 1), nil} {
		all := powerBySpec(list, allSets(list)-1)
		for needs := range daysOf(hours, all+2) {
			days = append(days, blowerDay{list, needs})
		}
	}
	return days
}

// daysOf yields all lists of so many numbers less than a limit, in their order.
func daysOf(hours int, limit int64) func(yield func([]int64) bool) {
	return func(yield func([]int64) bool) {
		for day := make([]int64, hours); ; {
			if !yield(slices.Clone(day)) {
				return
			}
			last := hours - 1
			for last >= 0 && day[last] == limit-1 {
				day[last] = 0
				last--
			}
			if last < 0 {
				return
			}
			day[last]++
		}
	}
}

// runsBySpec divides the number by 2 until the bit of the blower is the last one.
func runsBySpec(set int64, k int) bool {
	for range k {
		set /= 2
	}
	return set%2 == 1
}

func powerBySpec(list []impl.Blower, set int64) int64 {
	sum := int64(0)
	for k, b := range list {
		if runsBySpec(set, k) {
			sum += b.Power
		}
	}
	return sum
}

// costBySpec goes through the day for each blower.
func costBySpec(list []impl.Blower, sets []int64) int64 {
	sum := int64(0)
	for k, b := range list {
		ran := false
		for _, set := range sets {
			runs := runsBySpec(set, k)
			if runs {
				sum += b.Hour
			}
			if runs && !ran {
				sum += b.Start
			}
			ran = runs
		}
	}
	return sum
}

func meetsBySpec(x blowerDay, sets []int64) bool {
	for hour, need := range x.needs {
		if powerBySpec(x.list, sets[hour]) < need {
			return false
		}
	}
	return true
}

// bestBySpec tries all sets in all hours, and returns the first cheapest ones and how many others cost as much.
func bestBySpec(x blowerDay) ([]int64, int64, int) {
	var best []int64
	least, others := int64(-1), 0
	for sets := range daysOf(len(x.needs), allSets(x.list)) {
		if !meetsBySpec(x, sets) {
			continue
		}
		switch cost := costBySpec(x.list, sets); {
		case least < 0 || cost < least:
			best, least, others = sets, cost, 0
		case cost == least:
			others++
		}
	}
	return best, least, others
}

// bestForward goes through the day from its begin, and keeps for each set the first cheapest way to it.
func bestForward(x blowerDay) ([]int64, int64) {
	ways := map[int64][]int64{0: nil}
	for _, need := range x.needs {
		longer := map[int64][]int64{}
		for set := range allSets(x.list) {
			if powerBySpec(x.list, set) < need {
				continue
			}
			for _, way := range ways {
				next := append(slices.Clone(way), set)
				if known, is := longer[set]; !is || isBetter(x.list, next, known) {
					longer[set] = next
				}
			}
		}
		if ways = longer; len(ways) == 0 {
			return nil, -1
		}
	}
	var best []int64
	found := false
	for _, way := range ways {
		if !found || isBetter(x.list, way, best) {
			best, found = way, true
		}
	}
	return best, costBySpec(x.list, best)
}

// isBetter reports whether sets are cheaper, or cost the same and are the first ones.
func isBetter(list []impl.Blower, sets, others []int64) bool {
	a, b := costBySpec(list, sets), costBySpec(list, others)
	return a < b || a == b && slices.Compare(sets, others) < 0
}

// hourBySpec tries all sets alone.
func hourBySpec(list []impl.Blower, need int64) (int64, int64) {
	best := int64(-1)
	for set := range allSets(list) {
		if powerBySpec(list, set) >= need && (best < 0 || costBySpec(list, []int64{set}) < costBySpec(list, []int64{best})) {
			best = set
		}
	}
	if best < 0 {
		return 0, impl.ErrNotFound
	}
	return best, impl.OK
}

// longestBySpec tries all first hours and all lengths.
func longestBySpec(sets []int64, k int) (int64, int64) {
	for length := len(sets); length > 0; length-- {
		for first := 0; first+length <= len(sets); first++ {
			if !slices.ContainsFunc(sets[first:first+length], func(set int64) bool { return !runsBySpec(set, k) }) {
				return int64(first), int64(length)
			}
		}
	}
	return 0, 0
}

// checkBestDay compares with what is known of the best day; a cost below 0 tells that there is none.
func checkBestDay(t *testing.T, x blowerDay, want []int64, least int64) {
	t.Helper()
	sets, cost, code := impl.BestDay(x.list, x.needs)
	if least < 0 {
		check(t, fmt.Sprint(x), []any{len(sets), cost, code}, []any{0, int64(0), int64(impl.ErrNotFound)})
		return
	}
	check(t, fmt.Sprint(x), sets, want)
	check(t, fmt.Sprint(x), []int64{cost, code}, []int64{least, impl.OK})
}

// checkNoDearer is the promise itself, by the functions of the program.
func checkNoDearer(t *testing.T, x blowerDay) (int64, int64) {
	t.Helper()
	sets, cost, code := impl.BestDay(x.list, x.needs)
	var cheapest []int64
	alone := int64(0)
	for _, need := range x.needs {
		set, one := impl.CheapestHour(x.list, need)
		if one != impl.OK {
			check(t, fmt.Sprint(x, need), []int64{one, code}, []int64{impl.ErrNotFound, impl.ErrNotFound})
			return 0, 0
		}
		price, two := impl.CostOfDay(x.list, []int64{set})
		check(t, fmt.Sprint(x, need), two, int64(impl.OK))
		cheapest, alone = append(cheapest, set), alone+price
	}
	meets, one := impl.MeetsNeeds(x.list, x.needs, sets)
	check(t, fmt.Sprint(x, sets), []any{code, meets, one}, []any{int64(impl.OK), true, int64(impl.OK)})
	costs, two := impl.CostOfDay(x.list, sets)
	check(t, fmt.Sprint(x, sets), []int64{costs, two}, []int64{cost, impl.OK})
	one, two = impl.CostOfDay(x.list, cheapest)
	check(t, fmt.Sprint(x, cheapest), two, int64(impl.OK))
	if cost > one || one > alone {
		t.Errorf("%v: %d, but the cheapest hours %v cost %d, and %d if each one is the only one", x, cost, cheapest, one, alone)
	}
	return cost, one
}

// Promise 11: the best day meets all needs and costs no more than the cheapest hours.
func TestBestDayCostsNoMoreThanCheapestHours(t *testing.T) {
	less, same := 0, 0
	for _, x := range slices.Concat(smallDays(2), smallDays(3), drawnDays(1, 3000, 4, 6), drawnDays(2, 500, 4, 24), cornerDays()) {
		cost, other := checkNoDearer(t, x)
		if cost < other {
			less++
		} else if cost > 0 {
			same++
		}
	}
	if less < 500 || same < 500 {
		t.Errorf("%d days are cheaper, and %d cost the same", less, same)
	}
}

// cornerDays join blowers and needs at the limits.
func cornerDays() []blowerDay {
	var days []blowerDay
	for _, list := range cornerBlowers() {
		for _, needs := range cornerNeeds() {
			days = append(days, blowerDay{list, needs})
		}
	}
	return days
}

// Promise 11: of all sets in all hours, none are better.
func TestBestOfAllDays(t *testing.T) {
	none, several := 0, 0
	for _, x := range slices.Concat(smallDays(0), smallDays(1), smallDays(2), smallDays(3), drawnDays(3, 1500, 1, 8), drawnDays(4, 1500, 2, 5), drawnDays(5, 500, 3, 4), drawnDays(6, 400, 4, 3)) {
		want, least, others := bestBySpec(x)
		checkBestDay(t, x, want, least)
		forward, cost := bestForward(x)
		check(t, fmt.Sprint(x, " forward"), forward, want)
		check(t, fmt.Sprint(x, " forward"), cost, least)
		if least < 0 {
			none++
		} else if others > 0 {
			several++
		}
	}
	if none < 200 || several < 500 {
		t.Errorf("%d days cannot be met, and of %d there are several", none, several)
	}
}

func TestBestOfLongDays(t *testing.T) {
	through := 0
	for _, x := range append(cornerDays(), drawnDays(7, 400, 4, 24)...) {
		want, least := bestForward(x)
		checkBestDay(t, x, want, least)
		for hour, set := range want {
			if x.needs[hour] == 0 && set > 0 {
				through++
			}
		}
	}
	if through < 100 {
		t.Errorf("only %d hours without a need are run through", through)
	}
}

// Where a day ends, nothing of what comes later matters: a blower is not kept for it, and none is left to run.
func TestEndOfBestDay(t *testing.T) {
	for _, x := range append(drawnDays(8, 1000, 4, 12), drawnDays(9, 500, 2, 22)...) {
		sets, cost, code := impl.BestDay(x.list, x.needs)
		if code != impl.OK {
			continue
		}
		longer, costs, code := impl.BestDay(x.list, append(slices.Clone(x.needs), 0, 0))
		check(t, fmt.Sprint(x), []any{longer, costs, code}, []any{append(sets, 0, 0), cost, int64(impl.OK)})
		later, costs, code := impl.BestDay(x.list, append([]int64{0, 0}, x.needs...))
		check(t, fmt.Sprint(x), []any{later, costs, code}, []any{append([]int64{0, 0}, longer[:len(x.needs)]...), cost, int64(impl.OK)})
	}
}

func TestDaysHourByHour(t *testing.T) {
	r := rand.New(rand.NewPCG(10, 11))
	meets, misses := 0, 0
	for _, x := range slices.Concat(cornerDays(), drawnDays(11, 2000, 4, 24), drawnDays(12, 2000, 2, 4)) {
		sets := drawnSets(r, x)
		cost, code := impl.CostOfDay(x.list, sets)
		check(t, fmt.Sprint(x, sets), []int64{cost, code}, []int64{costBySpec(x.list, sets), impl.OK})
		does, code := impl.MeetsNeeds(x.list, x.needs, sets)
		check(t, fmt.Sprint(x, sets), []any{does, code}, []any{meetsBySpec(x, sets), int64(impl.OK)})
		if does {
			meets++
		} else {
			misses++
		}
		for k := range x.list {
			checkBlowerHours(t, x, sets, k)
		}
	}
	if meets < 500 || misses < 500 {
		t.Errorf("%d days are met, and %d are not", meets, misses)
	}
}

// drawnSets often stay as they are, and mostly meet the needs.
func drawnSets(r *rand.Rand, x blowerDay) []int64 {
	var sets []int64
	set := int64(0)
	mostly := 1 + r.IntN(60)
	for _, need := range x.needs {
		if r.IntN(3) == 0 {
			set = r.Int64N(allSets(x.list))
		}
		if powerBySpec(x.list, set) < need && r.IntN(mostly) > 0 {
			set = allSets(x.list) - 1
		}
		sets = append(sets, set)
	}
	return sets
}

// checkBlowerHours counts the hours of one blower.
func checkBlowerHours(t *testing.T, x blowerDay, sets []int64, k int) {
	t.Helper()
	c := hourCase{}
	for hour, set := range sets {
		if runsBySpec(set, k) {
			c.many++
		}
		if runsBySpec(set, k) && (hour == 0 || !runsBySpec(sets[hour-1], k)) {
			c.starts++
		}
	}
	c.first, c.length = longestBySpec(sets, k)
	checkHours(t, c, x.list, sets, int64(k))
}

func TestSetsOneByOne(t *testing.T) {
	for _, x := range append(cornerDays(), drawnDays(13, 1000, 4, 0)...) {
		for set := range allSets(x.list) {
			power, code := impl.PowerOf(x.list, set)
			check(t, fmt.Sprint(x.list, set), []int64{power, code}, []int64{powerBySpec(x.list, set), impl.OK})
			text := impl.SetText(x.list, set)
			for k := range x.list {
				check(t, fmt.Sprint(x.list, set), text[k] == '+', runsBySpec(set, k))
				check(t, fmt.Sprint(x.list, set), text[k] == '-', !runsBySpec(set, k))
			}
		}
		for need := range min(1000, powerBySpec(x.list, allSets(x.list)-1)+2) {
			want, code := hourBySpec(x.list, need)
			got, one := impl.CheapestHour(x.list, need)
			check(t, fmt.Sprint(x.list, need), []int64{got, one}, []int64{want, code})
		}
	}
}

// dayResults calls every function of chapter 11.
func dayResults(x dayArgs) []any {
	all := []any{impl.ValidBlowers(x.list), impl.ValidNeeds(x.needs), impl.ValidNeeds(x.sets), impl.SetText(x.list, x.set)}
	calls := dayCalls(x)
	for _, name := range allDayCalls {
		all = append(all, calls[name]...)
	}
	return all
}

// drawnDayArgs are valid and invalid arguments around a day.
func drawnDayArgs(r *rand.Rand, x blowerDay) dayArgs {
	number := func(limit int64) int64 {
		if r.IntN(5) > 0 {
			return r.Int64N(limit)
		}
		list := append([]int64{4, 15, 16, 999, 1000, 1001, 10000, 10001}, hostileNumbers...)
		return list[r.IntN(len(list))]
	}
	args := dayArgs{list: x.list, needs: x.needs, set: number(16), k: number(4), need: number(12)}
	for range x.needs {
		args.sets = append(args.sets, r.Int64N(1<<min(len(x.list), 4)))
	}
	if len(args.sets) > 0 && r.IntN(4) == 0 {
		args.sets[r.IntN(len(args.sets))] = number(16)
	}
	return args
}

// Promise 1 for chapter 11.
func TestBlowersKeepArguments(t *testing.T) {
	r := rand.New(rand.NewPCG(14, 11))
	days := slices.Concat(cornerDays(), smallDays(2), drawnDays(15, 1000, 4, 24))
	for _, list := range invalidBlowers() {
		days = append(days, blowerDay{list, []int64{1, 0, 1}})
	}
	for _, needs := range invalidNeeds() {
		days = append(days, blowerDay{sameBlowers(2, 500, 1, 1), needs})
	}
	for _, x := range days {
		checkDayKept(t, drawnDayArgs(r, x))
		checkDayKept(t, goodDay(x.list))
	}
	for _, sets := range wrongDays(sameBlowers(2, 5, 1, 1)) {
		checkDayKept(t, dayArgs{list: sameBlowers(2, 5, 1, 1), needs: sameHours(len(sets), 1), sets: sets})
	}
}

func checkDayKept(t *testing.T, x dayArgs) {
	t.Helper()
	given := x
	var changes [3]func() bool
	given.list, changes[0] = guarded(x.list, blower(7, 77, 7))
	given.needs, changes[1] = guarded(x.needs, 77)
	given.sets, changes[2] = guarded(x.sets, 77)
	checkResultsKept(t, brief(x), func() []any { return dayResults(given) }, changes[:]...)
}

// One list that is given as needs and as sets is returned by no function.
func TestSharedHoursAreKept(t *testing.T) {
	shared := append(make([]int64, 0, 24), 1, 0, 1, 1)
	x := dayArgs{list: blowers(1, 5, 7), needs: shared, sets: shared}
	want := dayResults(x)
	spoil(dayResults(x))
	check(t, "shared", shared[:8], []int64{1, 0, 1, 1, 0, 0, 0, 0})
	check(t, "results", dayResults(x), want)
	sets, _, _ := impl.BestDay(x.list, x.needs)
	check(t, "sets", append(sets, 9), []int64{1, 1, 1, 1, 9})
	check(t, "shared", shared[:8], []int64{1, 0, 1, 1, 0, 0, 0, 0})
}

func TestBlowersAtTheSameTime(t *testing.T) {
	r := rand.New(rand.NewPCG(16, 11))
	for _, x := range drawnDays(17, 100, 4, 24) {
		args := drawnDayArgs(r, x)
		checkAtTheSameTime(t, fmt.Sprint(x), func() []any { return dayResults(args) })
	}
}
