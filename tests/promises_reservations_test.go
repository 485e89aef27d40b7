package tests

import (
	"fmt"
	"math/rand/v2"
	"runtime"
	"slices"
	"sync"
	"testing"
	"time"

	"loop.example/g01046/impl"
)

// timedRuns are runs with the times for which they are valid.
type timedRuns struct {
	times []int64
	runs  []impl.Run
}

func (x timedRuns) String() string { return fmt.Sprint(x.times, x.runs) }

func drawnWay(r *rand.Rand, tubes, most int) []int64 {
	var way []int64
	for range 1 + r.IntN(most) {
		way = append(way, r.Int64N(int64(tubes)))
	}
	return way
}

// drawnRuns have few tubes and short times, so that many spans touch.
func drawnRuns(seed uint64, count int) []timedRuns {
	r := rand.New(rand.NewPCG(seed, 6))
	var list []timedRuns
	for range count {
		var x timedRuns
		for range []int{1, 2, 3, 5, 24}[r.IntN(5)] {
			x.times = append(x.times, 1+r.Int64N(5))
		}
		within := []int64{10, 30, 60}[r.IntN(3)]
		for range []int{0, 1, 2, 3, 5, 12}[r.IntN(6)] {
			x.runs = append(x.runs, impl.Run{Way: drawnWay(r, len(x.times), []int{1, 3, 12}[r.IntN(3)]), Start: r.Int64N(within)})
		}
		list = append(list, x)
	}
	return list
}

// use is a tube in which a run is at a tick.
type use struct{ tick, tube int64 }

// usesBySpec tells tick by tick where a run is.
func usesBySpec(times []int64, run impl.Run) []use {
	var uses []use
	tick := run.Start
	for _, tube := range run.Way {
		for range times[tube] {
			uses = append(uses, use{tick, tube})
			tick++
		}
	}
	return uses
}

// meetingBySpec returns the tube in which both runs are at the first tick at which they are in one tube.
func meetingBySpec(times []int64, a, b impl.Run) (int64, bool) {
	others := usesBySpec(times, b)
	for _, x := range usesBySpec(times, a) {
		if slices.Contains(others, x) {
			return x.tube, true
		}
	}
	return 0, false
}

func firstMeetingBySpec(x timedRuns) []int64 {
	for i := range x.runs {
		for k := range i {
			if tube, met := meetingBySpec(x.times, x.runs[i], x.runs[k]); met {
				return []int64{int64(i), int64(k), tube, impl.OK}
			}
		}
	}
	return []int64{0, 0, 0, impl.ErrNotFound}
}

// Promise 6: the first meeting is that of spans with a common tick.
func TestFirstMeetingsHaveACommonTick(t *testing.T) {
	counts := map[int64]int{}
	for _, x := range drawnRuns(1, 3000) {
		i, k, tube, code := impl.FirstMeeting(x.times, x.runs)
		check(t, x.String(), []int64{i, k, tube, code}, firstMeetingBySpec(x))
		counts[code]++
		if code == impl.OK {
			checkCommonTick(t, x, i, k, tube)
		}
	}
	if counts[impl.OK] < 500 || counts[impl.ErrNotFound] < 500 {
		t.Errorf("too few meetings or too many: %v", counts)
	}
}

// checkCommonTick looks for a tick that spans of both runs in the tube have.
func checkCommonTick(t *testing.T, x timedRuns, i, k, tube int64) {
	t.Helper()
	first, one := impl.SpansOf(x.times, x.runs[i])
	second, two := impl.SpansOf(x.times, x.runs[k])
	check(t, x.String(), []int64{one, two}, []int64{impl.OK, impl.OK})
	for _, a := range first {
		for _, b := range second {
			for tick := a[1]; tick < a[2]; tick++ {
				if a[0] == tube && b[0] == tube && b[1] <= tick && tick < b[2] {
					return
				}
			}
		}
	}
	t.Errorf("%v: the runs %d and %d have no common tick in the tube %d", x, i, k, tube)
}

// takenTicks tells for each tube at which ticks a run is in it.
func takenTicks(x timedRuns) []map[int64]bool {
	taken := make([]map[int64]bool, len(x.times))
	for tube := range taken {
		taken[tube] = map[int64]bool{}
	}
	for _, run := range x.runs {
		for _, u := range usesBySpec(x.times, run) {
			taken[u.tube][u.tick] = true
		}
	}
	return taken
}

// earliestBySpec tries one start after the other.
func earliestBySpec(x timedRuns, way []int64, from int64) []int64 {
	taken := takenTicks(x)
	for start := from; start <= 100000; start++ {
		if !slices.ContainsFunc(usesBySpec(x.times, impl.Run{Way: way, Start: start}), func(u use) bool { return taken[u.tube][u.tick] }) {
			return []int64{start, impl.OK}
		}
	}
	return []int64{0, impl.ErrFull}
}

func checkEarliest(t *testing.T, x timedRuns, way []int64, from int64) (int64, int64) {
	t.Helper()
	start, code := impl.EarliestStart(x.times, x.runs, way, from)
	check(t, fmt.Sprint(x, way, from), []int64{start, code}, earliestBySpec(x, way, from))
	return start, code
}

// meetsOne reports whether a run meets one of others, each of them alone.
func meetsOne(t *testing.T, x timedRuns, run impl.Run) bool {
	t.Helper()
	return slices.ContainsFunc(x.runs, func(other impl.Run) bool {
		_, _, _, code := impl.FirstMeeting(x.times, []impl.Run{other, run})
		return code == impl.OK
	})
}

// Promise 6: a run cannot begin a tick earlier.
func TestRunsCannotBeginEarlier(t *testing.T) {
	r := rand.New(rand.NewPCG(2, 6))
	later := 0
	for _, x := range drawnRuns(3, 2000) {
		way, from := drawnWay(r, len(x.times), 8), r.Int64N(50)
		start, code := checkEarliest(t, x, way, from)
		check(t, x.String(), code, int64(impl.OK))
		check(t, fmt.Sprint(x, way, start), meetsOne(t, x, impl.Run{Way: way, Start: start}), false)
		if start > from {
			later++
			check(t, fmt.Sprint(x, way, start-1), meetsOne(t, x, impl.Run{Way: way, Start: start - 1}), true)
		}
	}
	if later < 500 {
		t.Errorf("only %d runs begin later", later)
	}
}

// The same with long times, near the latest start.
func TestLateRunsCannotBeginEarlier(t *testing.T) {
	r := rand.New(rand.NewPCG(4, 6))
	counts := map[int64]int{}
	for range 60 {
		x := timedRuns{times: []int64{1000, 1 + r.Int64N(1000), 1}}
		for range 1 + r.IntN(12) {
			x.runs = append(x.runs, impl.Run{Way: drawnWay(r, 3, 4), Start: 100000 - r.Int64N(5000)})
		}
		_, code := checkEarliest(t, x, drawnWay(r, 3, 2), 96000+r.Int64N(4001))
		counts[code]++
	}
	if counts[impl.OK] < 10 || counts[impl.ErrFull] < 10 {
		t.Errorf("too few starts or too many: %v", counts)
	}
}

// A plan that is built by EarliestStart has no meeting, until it is full.
func TestPlansWithoutMeetings(t *testing.T) {
	r := rand.New(rand.NewPCG(5, 6))
	for range 300 {
		x := timedRuns{times: []int64{1 + r.Int64N(4), 1 + r.Int64N(4), 1 + r.Int64N(4)}}
		for len(x.runs) < 12 {
			way := drawnWay(r, 3, 6)
			start, code := checkEarliest(t, x, way, r.Int64N(10))
			check(t, x.String(), code, int64(impl.OK))
			x.runs = append(x.runs, impl.Run{Way: way, Start: start})
			_, _, _, code = impl.FirstMeeting(x.times, x.runs)
			check(t, x.String(), code, int64(impl.ErrNotFound))
		}
	}
}

// Spans are counted tick by tick.
func TestSpansTickByTick(t *testing.T) {
	for _, x := range drawnRuns(6, 600) {
		for _, run := range x.runs {
			checkSpans(t, x.times, run)
		}
		used := make([]int64, len(x.times))
		for tube := range x.times {
			var spans [][]int64
			for _, run := range x.runs {
				all, _ := impl.SpansOf(x.times, run)
				for _, span := range all {
					if span[0] == int64(tube) {
						spans = append(spans, span[1:])
						used[tube] += span[2] - span[1]
					}
				}
			}
			slices.SortFunc(spans, slices.Compare)
			in, code := impl.SpansIn(x.times, x.runs, int64(tube))
			check(t, fmt.Sprint(x, tube), code, int64(impl.OK))
			check(t, fmt.Sprint(x, tube), in, spans)
		}
		ticks, code := impl.TicksUsed(x.times, x.runs)
		check(t, x.String(), []any{ticks, code}, []any{used, int64(impl.OK)})
	}
}

func checkSpans(t *testing.T, times []int64, run impl.Run) {
	t.Helper()
	var uses []use
	spans, code := impl.SpansOf(times, run)
	check(t, fmt.Sprint(times, run), []any{len(spans), code}, []any{len(run.Way), int64(impl.OK)})
	for _, span := range spans {
		for tick := span[1]; tick < span[2]; tick++ {
			uses = append(uses, use{tick, span[0]})
		}
	}
	check(t, fmt.Sprint(times, run), uses, usesBySpec(times, run))
	end, code := impl.EndOfRun(times, run)
	check(t, fmt.Sprint(times, run), []int64{end, code}, []int64{uses[len(uses)-1].tick + 1, impl.OK})
}

func TestFreeTicksOneByOne(t *testing.T) {
	r := rand.New(rand.NewPCG(7, 6))
	counts := map[bool]int{}
	for _, x := range drawnRuns(8, 600) {
		taken := takenTicks(x)
		for range 40 {
			tube, from := r.Int64N(int64(len(x.times))), r.Int64N(80)
			to, want := from+r.Int64N(8), true
			for tick := from; tick < to; tick++ {
				want = want && !taken[tube][tick]
			}
			free, code := impl.FreeAt(x.times, x.runs, tube, from, to)
			check(t, fmt.Sprint(x, tube, from, to), []any{free, code}, []any{want, int64(impl.OK)})
			counts[want]++
		}
	}
	if counts[true] < 1000 || counts[false] < 1000 {
		t.Errorf("too few free tubes or too many: %v", counts)
	}
}

func TestDelayedRuns(t *testing.T) {
	r := rand.New(rand.NewPCG(9, 6))
	for _, x := range drawnRuns(10, 600) {
		if len(x.runs) == 0 {
			continue
		}
		k, by := r.IntN(len(x.runs)), r.Int64N(100)
		want := slices.Clone(x.runs)
		want[k].Start += by
		delayed, code := impl.DelayRun(x.times, x.runs, int64(k), by)
		check(t, fmt.Sprint(x, k, by), []any{delayed, code}, []any{want, int64(impl.OK)})
		check(t, fmt.Sprint(x, k, by), []bool{impl.ValidRuns(x.times, delayed), impl.SameRuns(delayed, want), impl.SameRuns(delayed, x.runs)}, []bool{true, true, by == 0})
	}
}

// reservationResults calls every function of chapter 6.
func reservationResults(x runArgs) []any {
	all := []any{impl.ValidTimes(x.times), impl.ValidRuns(x.times, x.runs), impl.SameRuns(x.runs, []impl.Run{{Way: x.way, Start: x.start}}), impl.SameRuns(x.runs, x.runs)}
	calls := runCalls(x)
	for _, name := range append(slices.Clone(oneRunCalls), runsCalls...) {
		all = append(all, calls[name]...)
	}
	return all
}

// drawnRunArgs are valid and invalid arguments around some runs.
func drawnRunArgs(r *rand.Rand, x timedRuns) runArgs {
	number := func() int64 {
		if r.IntN(4) > 0 {
			return r.Int64N(12)
		}
		list := append([]int64{-100000, 100000, 100001, 200000, 200001}, hostileNumbers...)
		return list[r.IntN(len(list))]
	}
	y := runArgs{times: x.times, runs: x.runs, start: number(), from: number(), to: number(), tube: number(), k: number(), by: number()}
	if r.IntN(4) > 0 {
		y.way = drawnWay(r, max(1, min(24, len(x.times))), 12)
	} else {
		y.way = []int64{number(), number()}
	}
	return y
}

// Promise 1 for chapter 6.
func TestReservationsKeepArguments(t *testing.T) {
	r := rand.New(rand.NewPCG(11, 6))
	list := drawnRuns(12, 300)
	for _, runs := range slices.Concat(cornerRuns(), invalidRuns()) {
		list = append(list, timedRuns{exampleTimes(), runs})
	}
	for _, times := range invalidTimes() {
		list = append(list, timedRuns{times, nil}, timedRuns{times, []impl.Run{runFrom(0, 0)}})
	}
	for _, x := range list {
		for range 10 {
			checkReservationsKept(t, drawnRunArgs(r, x))
		}
	}
}

// guardedRuns guards the list and the way of each run in it.
func guardedRuns(runs []impl.Run) ([]impl.Run, func() bool) {
	return guardedDeeply(runs, runFrom(7, 7), func(run impl.Run) (impl.Run, func() bool) {
		way, changed := guarded(run.Way, 77)
		return runFrom(run.Start, way...), changed
	})
}

func checkReservationsKept(t *testing.T, x runArgs) {
	t.Helper()
	given := x
	var changes [3]func() bool
	given.times, changes[0] = guarded(x.times, 77)
	given.runs, changes[1] = guardedRuns(x.runs)
	given.way, changes[2] = guarded(x.way, 77)
	checkResultsKept(t, brief(x), func() []any { return reservationResults(given) }, changes[:]...)
}

// checkApart overwrites lists up to their capacities, and expects that each one keeps its own numbers.
func checkApart(t *testing.T, name string, lists [][]int64) {
	t.Helper()
	for i, list := range lists {
		fill(list[:cap(list)], int64(i))
	}
	for i, list := range lists {
		for _, number := range list[:cap(list)] {
			check(t, name, number, int64(i))
		}
	}
}

func TestListsOfReservationsAreApart(t *testing.T) {
	runs := []impl.Run{runFrom(0, 0, 1, 0), runFrom(2, 0, 1, 0), runFrom(4, 1, 1)}
	spans, _ := impl.SpansOf(exampleTimes(), runs[0])
	in, _ := impl.SpansIn(exampleTimes(), runs, 0)
	delayed, _ := impl.DelayRun(exampleTimes(), runs, 1, 3)
	check(t, "numbers of lists", []int{len(spans), len(in), len(delayed)}, []int{3, 4, 3})
	// One way that is given several times is returned several times.
	shared := []int64{0, 1}
	same, _ := impl.DelayRun(exampleTimes(), []impl.Run{{Way: shared}, {Way: shared}, {Way: shared, Start: 1}}, 2, 3)
	checkApart(t, "SpansOf", spans)
	checkApart(t, "SpansIn", in)
	for _, list := range [][]impl.Run{delayed, same} {
		var ways [][]int64
		for _, run := range list {
			ways = append(ways, run.Way)
		}
		checkApart(t, "DelayRun", ways)
	}
	check(t, "given way", shared, []int64{0, 1})
}

// No goroutine outlives a call, whatever the arguments are.
func TestNoGoroutineIsLeft(t *testing.T) {
	r := rand.New(rand.NewPCG(13, 6))
	checkNoGoroutineIsLeft(t, func() {
		for _, x := range drawnRuns(14, 300) {
			reservationResults(drawnRunArgs(r, x))
		}
	})
}

func checkNoGoroutineIsLeft(t *testing.T, calls func()) {
	t.Helper()
	before := runtime.NumGoroutine()
	calls()
	for range 500 {
		if runtime.NumGoroutine() <= before {
			return
		}
		time.Sleep(10 * time.Millisecond)
	}
	t.Errorf("%d goroutines before, %d after", before, runtime.NumGoroutine())
}

// Calls at the same time with the same arguments do not disturb each other.
func TestReservationsAtTheSameTime(t *testing.T) {
	r := rand.New(rand.NewPCG(15, 6))
	for _, x := range drawnRuns(16, 100) {
		y := drawnRunArgs(r, x)
		checkAtTheSameTime(t, x.String(), func() []any { return reservationResults(y) })
	}
}

func checkAtTheSameTime(t *testing.T, name string, results func() []any) {
	t.Helper()
	want := results()
	var all [8][]any
	var done sync.WaitGroup
	for i := range all {
		done.Go(func() { all[i] = results() })
	}
	done.Wait()
	for _, got := range all {
		check(t, name, got, want)
	}
}
