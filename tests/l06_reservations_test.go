package tests

import (
	"fmt"
	"math"
	"slices"
	"testing"

	"loop.example/g01046/impl"
)

// exampleTimes are the times of the chapter's example.
func exampleTimes() []int64 { return []int64{5, 3} }

func runFrom(start int64, way ...int64) impl.Run { return impl.Run{Way: way, Start: start} }

// withWrongNumbers are the lists with one number replaced, at each place, by each wrong one.
func withWrongNumbers(lists [][]int64, wrong ...int64) [][]int64 {
	var all [][]int64
	for _, list := range lists {
		for place := range list {
			for _, number := range wrong {
				changed := slices.Clone(list)
				changed[place] = number
				all = append(all, changed)
			}
		}
	}
	return all
}

// invalidTimes are no times.
func invalidTimes() [][]int64 {
	list := [][]int64{nil, {}, slices.Repeat([]int64{1}, 25), slices.Repeat([]int64{1000}, 26), slices.Repeat([]int64{5}, 100000)}
	valid := [][]int64{{5}, {5, 3, 1000}, slices.Repeat([]int64{1}, 24)}
	return append(list, withWrongNumbers(valid, math.MinInt64, -1, 0, 1001, math.MaxInt64)...)
}

// wrongWays are no ways of runs for two times.
func wrongWays() [][]int64 {
	list := [][]int64{nil, {}, slices.Repeat([]int64{0}, 13), slices.Repeat([]int64{1, 0}, 7), slices.Repeat([]int64{1}, 100000)}
	valid := [][]int64{{0}, {1, 0, 1}, slices.Repeat([]int64{1, 0}, 6)}
	return append(list, withWrongNumbers(valid, math.MinInt64, -1, 2, 24, math.MaxInt64)...)
}

var wrongStarts = []int64{math.MinInt64, -1, 100001, 200000, math.MaxInt64}

// invalidRuns are no runs for two times.
func invalidRuns() [][]impl.Run {
	list := [][]impl.Run{slices.Repeat([]impl.Run{runFrom(0, 0)}, 13), slices.Repeat([]impl.Run{runFrom(1, 1, 0)}, 1000), make([]impl.Run, 1), make([]impl.Run, 100000)}
	var wrong []impl.Run
	for _, way := range wrongWays() {
		wrong = append(wrong, runFrom(0, way...))
	}
	for _, start := range wrongStarts {
		wrong = append(wrong, runFrom(start, 0), runFrom(start, 0, 1), runFrom(start))
	}
	for _, run := range wrong {
		list = append(list, []impl.Run{run}, []impl.Run{runFrom(0, 0), run}, []impl.Run{run, runFrom(0, 0), runFrom(0, 1)})
	}
	return append(list, append(slices.Repeat([]impl.Run{runFrom(0, 0)}, 11), runFrom(100001, 0)))
}

// cornerRuns are valid for two times, and lie at the limits.
func cornerRuns() [][]impl.Run {
	long := slices.Repeat([]int64{1, 0}, 6)
	return [][]impl.Run{
		nil, {}, {runFrom(0, 0)}, {runFrom(100000, 1)}, {runFrom(0, long...)}, {runFrom(100000, long...)}, {runFrom(7, 0, 0, 0)},
		{runFrom(0, 0, 1), runFrom(6, 1, 0)}, {runFrom(0, 0), runFrom(5, 0)}, {runFrom(5, 0), runFrom(0, 0)}, {runFrom(1, 1), runFrom(1, 1)},
		slices.Repeat([]impl.Run{runFrom(0, 0)}, 12), slices.Repeat([]impl.Run{runFrom(100000, long...)}, 12), slices.Repeat([]impl.Run{runFrom(3, 1)}, 11),
	}
}

func TestReservationLimits(t *testing.T) {
	check(t, "limits", []int64{impl.MaxTimes, impl.MaxTime, impl.MaxRuns, impl.MaxWay, impl.MaxStart}, []int64{24, 1000, 12, 12, 100000})
}

func TestExampleOfReservations(t *testing.T) {
	runs := []impl.Run{runFrom(0, 0, 1)}
	for tick := int64(0); tick < 12; tick++ {
		free, code := impl.FreeAt(exampleTimes(), runs, 1, tick, tick+1)
		check(t, fmt.Sprint("tick ", tick), []any{free, code}, []any{tick < 5 || tick > 7, int64(impl.OK)})
	}
	start, code := impl.EarliestStart(exampleTimes(), runs, []int64{0, 1}, 0)
	check(t, "second run", []int64{start, code}, []int64{5, impl.OK})
}

func TestValidTimes(t *testing.T) {
	for _, times := range [][]int64{{1}, {1000}, {5, 3}, {1, 1000, 1}, slices.Repeat([]int64{1}, 24), slices.Repeat([]int64{1000}, 24), slices.Repeat([]int64{999}, 23)} {
		check(t, fmt.Sprint(times), impl.ValidTimes(times), true)
	}
	for _, times := range invalidTimes() {
		check(t, brief(times), impl.ValidTimes(times), false)
	}
}

func TestValidRuns(t *testing.T) {
	for _, runs := range cornerRuns() {
		check(t, fmt.Sprint(runs), impl.ValidRuns(exampleTimes(), runs), true)
		for _, times := range invalidTimes() {
			check(t, brief(times, runs), impl.ValidRuns(times, runs), false)
		}
	}
	for _, runs := range invalidRuns() {
		check(t, brief(runs), impl.ValidRuns(exampleTimes(), runs), false)
	}
	// Each number of times has its own last tube.
	for count := int64(1); count <= 24; count++ {
		for tube := int64(-1); tube <= 25; tube++ {
			valid := impl.ValidRuns(slices.Repeat([]int64{1}, int(count)), []impl.Run{runFrom(0, 0, tube)})
			check(t, fmt.Sprint(count, tube), valid, 0 <= tube && tube < count)
		}
	}
}

func TestSameRuns(t *testing.T) {
	lists := [][]impl.Run{
		nil, {runFrom(0)}, {runFrom(0, 0)}, {runFrom(1, 0)}, {runFrom(0, 1)}, {runFrom(0, 0, 1)}, {runFrom(0, 1, 0)}, {runFrom(0, 0, 0)},
		{runFrom(0, 0), runFrom(0, 0)}, {runFrom(0, 0), runFrom(1, 0)}, {runFrom(1, 0), runFrom(0, 0)}, {runFrom(0, 0, 1), runFrom(0)}, {runFrom(0, 0), runFrom(0, 1)},
		{runFrom(-1, -1)}, {runFrom(math.MinInt64, math.MaxInt64)}, {runFrom(math.MaxInt64, math.MaxInt64)},
		slices.Repeat([]impl.Run{runFrom(0, 0)}, 12), slices.Repeat([]impl.Run{runFrom(0, 0)}, 13),
	}
	for i, a := range lists {
		for j, b := range lists {
			var other []impl.Run
			for _, run := range b {
				other = append(other, runFrom(run.Start, slices.Clone(run.Way)...))
			}
			check(t, fmt.Sprint(a, b), impl.SameRuns(a, other), i == j)
		}
	}
	check(t, "nil and empty lists", []bool{impl.SameRuns(nil, []impl.Run{}), impl.SameRuns([]impl.Run{}, nil)}, []bool{true, true})
	check(t, "nil and empty ways", impl.SameRuns([]impl.Run{{}}, []impl.Run{{Way: []int64{}}}), true)
	check(t, "longer ways", impl.SameRuns([]impl.Run{{Way: []int64{}}}, []impl.Run{{Way: []int64{0}}}), false)
}

func TestSpansOf(t *testing.T) {
	for _, c := range []struct {
		times []int64
		run   impl.Run
		spans [][]int64
	}{
		{exampleTimes(), runFrom(0, 0, 1), [][]int64{{0, 0, 5}, {1, 5, 8}}},
		{exampleTimes(), runFrom(6, 1, 0), [][]int64{{1, 6, 9}, {0, 9, 14}}},
		{exampleTimes(), runFrom(100000, 1), [][]int64{{1, 100000, 100003}}},
		{exampleTimes(), runFrom(2, 1, 1, 0, 1), [][]int64{{1, 2, 5}, {1, 5, 8}, {0, 8, 13}, {1, 13, 16}}},
		{[]int64{1}, runFrom(0, 0), [][]int64{{0, 0, 1}}},
		{[]int64{1000, 1}, runFrom(99999, 0, 1), [][]int64{{0, 99999, 100999}, {1, 100999, 101000}}},
		{counted(25)[1:], runFrom(1, 23, 0, 22), [][]int64{{23, 1, 25}, {0, 25, 26}, {22, 26, 49}}},
	} {
		spans, code := impl.SpansOf(c.times, c.run)
		check(t, fmt.Sprint(c.times, c.run), []any{spans, code}, []any{c.spans, int64(impl.OK)})
		end, code := impl.EndOfRun(c.times, c.run)
		check(t, fmt.Sprint(c.times, c.run), []int64{end, code}, []int64{c.spans[len(c.spans)-1][2], impl.OK})
	}
}

func TestLongestRun(t *testing.T) {
	var want [][]int64
	for i := range int64(12) {
		want = append(want, []int64{23, 100000 + 1000*i, 101000 + 1000*i})
	}
	times, run := slices.Repeat([]int64{1000}, 24), runFrom(100000, slices.Repeat([]int64{23}, 12)...)
	spans, code := impl.SpansOf(times, run)
	check(t, "spans", []any{spans, code}, []any{want, int64(impl.OK)})
	end, code := impl.EndOfRun(times, run)
	check(t, "end", []int64{end, code}, []int64{112000, impl.OK})
}

func TestFirstMeeting(t *testing.T) {
	none := []int64{0, 0, 0, impl.ErrNotFound}
	met := func(i, k, tube int64) []int64 { return []int64{i, k, tube, impl.OK} }
	for _, c := range []struct {
		runs []impl.Run
		want []int64
	}{
		{nil, none}, {[]impl.Run{}, none}, {[]impl.Run{runFrom(0, 0)}, none},
		// A run does not meet itself.
		{[]impl.Run{runFrom(0, 0, 0, 1, 0)}, none},
		// Spans that touch, and a tick more.
		{[]impl.Run{runFrom(0, 0), runFrom(5, 0)}, none}, {[]impl.Run{runFrom(5, 0), runFrom(0, 0)}, none},
		{[]impl.Run{runFrom(0, 0), runFrom(4, 0)}, met(1, 0, 0)}, {[]impl.Run{runFrom(4, 0), runFrom(0, 0)}, met(1, 0, 0)},
		{[]impl.Run{runFrom(0, 0, 1), runFrom(8, 1, 0)}, none}, {[]impl.Run{runFrom(0, 0, 1), runFrom(7, 1, 0)}, met(1, 0, 1)},
		{[]impl.Run{runFrom(3, 0), runFrom(0, 1, 0)}, met(1, 0, 0)}, {[]impl.Run{runFrom(8, 0), runFrom(0, 1, 0)}, none},
		{[]impl.Run{runFrom(0, 0), runFrom(5, 0), runFrom(10, 0), runFrom(0, 1), runFrom(3, 1)}, none},
		// The same span, other tubes, and other ticks.
		{[]impl.Run{runFrom(3, 0), runFrom(3, 0)}, met(1, 0, 0)}, {[]impl.Run{runFrom(0, 0), runFrom(0, 1)}, none}, {[]impl.Run{runFrom(0, 0, 1), runFrom(50, 0, 1)}, none},
		{[]impl.Run{runFrom(0, 0, 1), runFrom(6, 1, 0)}, met(1, 0, 1)}, {[]impl.Run{runFrom(0, 0, 1), runFrom(0, 1, 0)}, met(1, 0, 0)},
		// The first run that meets one in front of it, not the first one that is met, nor the first tick.
		{[]impl.Run{runFrom(0, 0), runFrom(10, 0), runFrom(12, 0)}, met(2, 1, 0)}, {[]impl.Run{runFrom(0, 0), runFrom(10, 0), runFrom(2, 0)}, met(2, 0, 0)},
		{[]impl.Run{runFrom(0, 0), runFrom(3, 0), runFrom(0, 0)}, met(1, 0, 0)}, {[]impl.Run{runFrom(90, 0), runFrom(0, 1), runFrom(2, 1), runFrom(90, 0)}, met(2, 1, 1)},
		{[]impl.Run{runFrom(90, 0), runFrom(90, 0), runFrom(0, 1), runFrom(0, 1)}, met(1, 0, 0)},
		// The first one of those that it meets, though it meets the other one before.
		{[]impl.Run{runFrom(0, 0), runFrom(0, 1), runFrom(0, 1, 0)}, met(2, 0, 0)}, {[]impl.Run{runFrom(0, 1), runFrom(0, 0), runFrom(0, 1, 0)}, met(2, 0, 1)},
		// They meet in several tubes.
		{[]impl.Run{runFrom(0, 0, 1), runFrom(1, 0, 1)}, met(1, 0, 0)}, {[]impl.Run{runFrom(1, 1, 0), runFrom(0, 1, 0)}, met(1, 0, 1)}, {[]impl.Run{runFrom(0, 1, 1, 0), runFrom(5, 1, 0)}, met(1, 0, 1)},
		// Ways that go through one tube several times.
		{[]impl.Run{runFrom(0, 0, 0), runFrom(10, 0)}, none}, {[]impl.Run{runFrom(0, 0, 0), runFrom(9, 0)}, met(1, 0, 0)}, {[]impl.Run{runFrom(9, 0), runFrom(0, 0, 0)}, met(1, 0, 0)},
		{[]impl.Run{runFrom(0, 0, 1, 0), runFrom(5, 0)}, met(1, 0, 0)}, {[]impl.Run{runFrom(0, 1, 0, 1), runFrom(3, 1)}, none}, {[]impl.Run{runFrom(0, 1, 0, 1), runFrom(5, 1)}, none},
		{[]impl.Run{runFrom(0, 1, 0, 1), runFrom(6, 1)}, met(1, 0, 1)}, {[]impl.Run{runFrom(0, 1, 0, 1), runFrom(10, 1)}, met(1, 0, 1)}, {[]impl.Run{runFrom(0, 1, 0, 1), runFrom(11, 1)}, none},
		// The place in the way at which they meet first counts, not one before that leads through the same tube.
		{[]impl.Run{runFrom(5, 1, 0), runFrom(0, 0, 1, 0)}, met(1, 0, 1)}, {[]impl.Run{runFrom(0, 0, 1, 0), runFrom(5, 1, 0)}, met(1, 0, 1)},
		// The last ones of 12 runs.
		{append([]impl.Run{runFrom(0, 0)}, apart(11)...), none}, {append(apart(11), runFrom(104, 0)), met(11, 10, 0)}, {append(apart(11), runFrom(105, 0)), none},
		{append(apart(10), runFrom(0, 1), runFrom(2, 1)), met(11, 10, 1)},
	} {
		i, k, tube, code := impl.FirstMeeting(exampleTimes(), c.runs)
		check(t, fmt.Sprint(c.runs), []int64{i, k, tube, code}, c.want)
	}
}

// apart are runs through the tube 0 with breaks, from the tick 10 on.
func apart(count int64) []impl.Run {
	var runs []impl.Run
	for i := range count {
		runs = append(runs, runFrom(10+9*i, 0))
	}
	return runs
}

func TestMeetingsOfShortAndLongTimes(t *testing.T) {
	for _, c := range []struct {
		times []int64
		runs  []impl.Run
		want  []int64
	}{
		{[]int64{1}, []impl.Run{runFrom(0, 0), runFrom(1, 0)}, []int64{0, 0, 0, impl.ErrNotFound}},
		{[]int64{1}, []impl.Run{runFrom(1, 0), runFrom(1, 0)}, []int64{1, 0, 0, impl.OK}},
		{[]int64{1000}, []impl.Run{runFrom(0, 0), runFrom(999, 0)}, []int64{1, 0, 0, impl.OK}},
		{[]int64{1000}, []impl.Run{runFrom(0, 0), runFrom(1000, 0)}, []int64{0, 0, 0, impl.ErrNotFound}},
		{[]int64{1000}, []impl.Run{runFrom(100000, 0), runFrom(99000, 0)}, []int64{0, 0, 0, impl.ErrNotFound}},
		{[]int64{1000}, []impl.Run{runFrom(100000, 0), runFrom(99001, 0)}, []int64{1, 0, 0, impl.OK}},
		{[]int64{1000, 1}, []impl.Run{runFrom(89001, append(slices.Repeat([]int64{0}, 11), 1)...), runFrom(100000, 1)}, []int64{0, 0, 0, impl.ErrNotFound}},
		{[]int64{1000, 1}, []impl.Run{runFrom(89000, append(slices.Repeat([]int64{0}, 11), 1)...), runFrom(100000, 1)}, []int64{1, 0, 1, impl.OK}},
		{slices.Repeat([]int64{2}, 24), []impl.Run{runFrom(0, 23, 22, 21), runFrom(3, 22, 23)}, []int64{1, 0, 22, impl.OK}},
		{slices.Repeat([]int64{2}, 24), []impl.Run{runFrom(0, 23, 22, 21), runFrom(4, 22, 23)}, []int64{0, 0, 0, impl.ErrNotFound}},
	} {
		i, k, tube, code := impl.FirstMeeting(c.times, c.runs)
		check(t, fmt.Sprint(c.times, c.runs), []int64{i, k, tube, code}, c.want)
	}
}

func TestEarliestStart(t *testing.T) {
	for _, c := range []struct {
		runs []impl.Run
		way  []int64
		from int64
		want int64
	}{
		{nil, []int64{0, 1}, 0, 0}, {nil, []int64{1}, 77, 77}, {nil, []int64{0}, 100000, 100000},
		{[]impl.Run{runFrom(0, 0, 1)}, []int64{0, 1}, 0, 5}, {[]impl.Run{runFrom(0, 0, 1)}, []int64{0, 1}, 5, 5}, {[]impl.Run{runFrom(0, 0, 1)}, []int64{0, 1}, 6, 6}, {[]impl.Run{runFrom(0, 0, 1)}, []int64{0, 1}, 4, 5},
		// Just in front of a run, behind it, and between two of them.
		{[]impl.Run{runFrom(5, 0)}, []int64{0}, 0, 0}, {[]impl.Run{runFrom(4, 0)}, []int64{0}, 0, 9}, {[]impl.Run{runFrom(0, 0), runFrom(10, 0)}, []int64{0}, 0, 5},
		{[]impl.Run{runFrom(10, 0), runFrom(0, 0)}, []int64{0}, 0, 5}, {[]impl.Run{runFrom(0, 0), runFrom(9, 0)}, []int64{0}, 0, 14}, {[]impl.Run{runFrom(9, 0), runFrom(0, 0)}, []int64{0}, 0, 14},
		{[]impl.Run{runFrom(20, 0), runFrom(5, 0), runFrom(10, 0), runFrom(0, 0)}, []int64{0}, 0, 15}, {[]impl.Run{runFrom(19, 0), runFrom(5, 0), runFrom(10, 0), runFrom(0, 0)}, []int64{0}, 0, 24},
		{[]impl.Run{runFrom(0, 0), runFrom(10, 0)}, []int64{0}, 6, 15}, {[]impl.Run{runFrom(0, 0), runFrom(12, 0)}, []int64{0}, 6, 6}, {[]impl.Run{runFrom(0, 0), runFrom(12, 0)}, []int64{0}, 8, 17},
		// Other tubes do not matter.
		{[]impl.Run{runFrom(0, 1), runFrom(3, 1)}, []int64{0}, 0, 0}, {[]impl.Run{runFrom(0, 0)}, []int64{1}, 2, 2},
		// The second tube: entered as it is left, or left as it is entered.
		{[]impl.Run{runFrom(2, 1)}, []int64{0, 1}, 0, 0}, {[]impl.Run{runFrom(3, 1)}, []int64{0, 1}, 0, 1}, {[]impl.Run{runFrom(8, 1)}, []int64{0, 1}, 0, 0}, {[]impl.Run{runFrom(7, 1)}, []int64{0, 1}, 0, 5},
		{[]impl.Run{runFrom(0, 0)}, []int64{1, 0}, 0, 2}, {[]impl.Run{runFrom(0, 0)}, []int64{1, 0}, 1, 2}, {[]impl.Run{runFrom(0, 0, 1)}, []int64{1, 0}, 0, 2}, {[]impl.Run{runFrom(0, 0, 1)}, []int64{1, 0}, 3, 8},
		// Behind the one run, it meets the other one.
		{[]impl.Run{runFrom(0, 0), runFrom(10, 1)}, []int64{0, 1}, 0, 8}, {[]impl.Run{runFrom(0, 0), runFrom(13, 1)}, []int64{0, 1}, 0, 5}, {[]impl.Run{runFrom(13, 1), runFrom(1, 0), runFrom(15, 0)}, []int64{0, 1}, 0, 20},
		// Ways through one tube several times.
		{[]impl.Run{runFrom(0, 0)}, []int64{0, 0, 0}, 0, 5}, {[]impl.Run{runFrom(14, 0)}, []int64{0, 0, 0}, 0, 19}, {[]impl.Run{runFrom(15, 0)}, []int64{0, 0, 0}, 0, 0}, {[]impl.Run{runFrom(5, 1)}, []int64{1, 0, 1}, 0, 0},
		{[]impl.Run{runFrom(6, 1)}, []int64{1, 0, 1}, 0, 1}, {[]impl.Run{runFrom(6, 1)}, []int64{1, 0, 1}, 3, 3}, {[]impl.Run{runFrom(6, 1)}, []int64{1, 0, 1}, 4, 9}, {[]impl.Run{runFrom(0, 0, 0, 0)}, []int64{0}, 3, 15},
		{[]impl.Run{runFrom(0, 1, 0, 1)}, []int64{1}, 0, 3}, {[]impl.Run{runFrom(0, 1, 0, 1)}, []int64{1}, 5, 5}, {[]impl.Run{runFrom(0, 1, 0, 1)}, []int64{1}, 6, 11},
		// Runs that meet each other.
		{[]impl.Run{runFrom(0, 0), runFrom(3, 0), runFrom(3, 0), runFrom(7, 0)}, []int64{0}, 0, 12}, {[]impl.Run{runFrom(3, 0), runFrom(0, 0)}, []int64{0}, 1, 8},
		// 12 runs, one close to the other.
		{closeRuns(12), []int64{0}, 0, 60}, {closeRuns(12), []int64{1}, 0, 0}, {closeRuns(11), slices.Repeat([]int64{0}, 12), 9, 55},
	} {
		start, code := impl.EarliestStart(exampleTimes(), c.runs, c.way, c.from)
		check(t, fmt.Sprint(c.runs, c.way, c.from), []int64{start, code}, []int64{c.want, impl.OK})
	}
}

// closeRuns go through the tube 0 one behind the other, the last one first.
func closeRuns(count int64) []impl.Run {
	var runs []impl.Run
	for i := range count {
		runs = append(runs, runFrom(5*(count-1-i), 0))
	}
	return runs
}

func TestLatestStart(t *testing.T) {
	long := slices.Repeat([]int64{0}, 12)
	for _, c := range []struct {
		times []int64
		runs  []impl.Run
		way   []int64
		from  int64
		want  int64
		code  int64
	}{
		{exampleTimes(), []impl.Run{runFrom(99995, 0)}, []int64{0}, 99991, 100000, impl.OK},
		{exampleTimes(), []impl.Run{runFrom(99996, 0)}, []int64{0}, 99992, 0, impl.ErrFull},
		{exampleTimes(), []impl.Run{runFrom(99996, 0)}, []int64{0}, 99991, 99991, impl.OK},
		{exampleTimes(), []impl.Run{runFrom(99995, 0)}, []int64{0}, 100000, 100000, impl.OK},
		{exampleTimes(), []impl.Run{runFrom(99996, 0)}, []int64{0}, 100000, 0, impl.ErrFull},
		{exampleTimes(), []impl.Run{runFrom(100000, 0)}, []int64{0}, 100000, 0, impl.ErrFull},
		{exampleTimes(), []impl.Run{runFrom(100000, 0)}, []int64{1}, 100000, 100000, impl.OK},
		{exampleTimes(), []impl.Run{runFrom(100000, 0)}, []int64{1, 0}, 100000, 0, impl.ErrFull},
		{exampleTimes(), []impl.Run{runFrom(99998, 0)}, []int64{1, 0}, 99991, 100000, impl.OK},
		{exampleTimes(), []impl.Run{runFrom(99999, 0)}, []int64{1, 0}, 99992, 0, impl.ErrFull},
		{exampleTimes(), []impl.Run{runFrom(99999, 0)}, []int64{1, 0}, 99991, 99991, impl.OK},
		{exampleTimes(), []impl.Run{runFrom(99997, 1), runFrom(99990, 0)}, []int64{0, 1}, 99988, 99995, impl.OK},
		{[]int64{1000}, []impl.Run{runFrom(88000, long...)}, []int64{0}, 87001, 100000, impl.OK},
		{[]int64{1000}, []impl.Run{runFrom(88001, long...)}, []int64{0}, 87002, 0, impl.ErrFull},
		{[]int64{1000}, []impl.Run{runFrom(100000, long...)}, []int64{0}, 99000, 99000, impl.OK},
		{[]int64{1000}, []impl.Run{runFrom(100000, long...)}, long, 88000, 88000, impl.OK},
		{[]int64{1000}, []impl.Run{runFrom(100000, long...)}, long, 88001, 0, impl.ErrFull},
		{[]int64{1}, []impl.Run{runFrom(99999, 0)}, []int64{0}, 99999, 100000, impl.OK},
		{[]int64{1}, []impl.Run{runFrom(99999, 0), runFrom(100000, 0)}, []int64{0}, 99999, 0, impl.ErrFull},
	} {
		start, code := impl.EarliestStart(c.times, c.runs, c.way, c.from)
		check(t, fmt.Sprint(c.times, c.runs, c.way, c.from), []int64{start, code}, []int64{c.want, c.code})
	}
}

func TestSpansIn(t *testing.T) {
	for _, c := range []struct {
		runs []impl.Run
		tube int64
		want [][]int64
	}{
		{nil, 0, nil}, {[]impl.Run{}, 1, nil}, {[]impl.Run{runFrom(0, 0)}, 1, nil}, {[]impl.Run{runFrom(0, 0, 1)}, 1, [][]int64{{5, 8}}},
		{[]impl.Run{runFrom(0, 0, 1), runFrom(6, 1, 0)}, 1, [][]int64{{5, 8}, {6, 9}}}, {[]impl.Run{runFrom(6, 1, 0), runFrom(0, 0, 1)}, 1, [][]int64{{5, 8}, {6, 9}}},
		{[]impl.Run{runFrom(6, 1, 0), runFrom(0, 0, 1)}, 0, [][]int64{{0, 5}, {9, 14}}},
		// Several times by one run, before and behind another one.
		{[]impl.Run{runFrom(10, 0, 0, 1, 0)}, 0, [][]int64{{10, 15}, {15, 20}, {23, 28}}}, {[]impl.Run{runFrom(10, 0, 1, 0), runFrom(12, 0)}, 0, [][]int64{{10, 15}, {12, 17}, {18, 23}}},
		// Each time, also where they are equal.
		{[]impl.Run{runFrom(4, 1), runFrom(4, 1), runFrom(1, 1)}, 1, [][]int64{{1, 4}, {4, 7}, {4, 7}}}, {slices.Repeat([]impl.Run{runFrom(2, 0)}, 12), 0, slices.Repeat([][]int64{{2, 7}}, 12)},
		// Numbers, not texts, are ordered.
		{[]impl.Run{runFrom(100, 0), runFrom(20, 0), runFrom(3, 0), runFrom(100000, 0)}, 0, [][]int64{{3, 8}, {20, 25}, {100, 105}, {100000, 100005}}},
	} {
		spans, code := impl.SpansIn(exampleTimes(), c.runs, c.tube)
		check(t, fmt.Sprint(c.runs, c.tube), code, int64(impl.OK))
		check(t, fmt.Sprint(c.runs, c.tube), spans, c.want)
	}
}

func TestTicksUsed(t *testing.T) {
	for _, c := range []struct {
		times []int64
		runs  []impl.Run
		want  []int64
	}{
		{exampleTimes(), nil, []int64{0, 0}}, {[]int64{7}, []impl.Run{}, []int64{0}}, {exampleTimes(), []impl.Run{runFrom(9, 1)}, []int64{0, 3}},
		{exampleTimes(), []impl.Run{runFrom(0, 0, 1), runFrom(6, 1, 0)}, []int64{10, 6}}, {exampleTimes(), []impl.Run{runFrom(0, 0, 0, 1, 0)}, []int64{15, 3}},
		// Ticks at which several runs are in the tube count for each one.
		{exampleTimes(), []impl.Run{runFrom(0, 0), runFrom(0, 0), runFrom(2, 0)}, []int64{15, 0}},
		{slices.Repeat([]int64{1000}, 24), slices.Repeat([]impl.Run{runFrom(100000, slices.Repeat([]int64{23}, 12)...)}, 12), append(make([]int64, 23), 144000)},
		{counted(25)[1:], []impl.Run{runFrom(0, counted(12)...), runFrom(0, counted(24)[12:]...)}, counted(25)[1:]},
		{[]int64{1}, []impl.Run{runFrom(0, 0)}, []int64{1}},
	} {
		used, code := impl.TicksUsed(c.times, c.runs)
		check(t, fmt.Sprint(c.times, c.runs), []any{used, code}, []any{c.want, int64(impl.OK)})
	}
}

func TestDelayRun(t *testing.T) {
	for _, c := range []struct {
		starts []int64
		k, by  int64
		want   []int64
	}{
		{[]int64{0}, 0, 0, []int64{0}}, {[]int64{0}, 0, 100000, []int64{100000}}, {[]int64{1}, 0, 100000, nil}, {[]int64{1}, 0, 99999, []int64{100000}},
		{[]int64{100000}, 0, 0, []int64{100000}}, {[]int64{100000}, 0, 1, nil}, {[]int64{99999}, 0, 1, []int64{100000}}, {[]int64{99999}, 0, 2, nil}, {[]int64{100000}, 0, 100000, nil},
		{[]int64{0, 6}, 1, 2, []int64{0, 8}}, {[]int64{0, 6}, 0, 2, []int64{2, 6}}, {[]int64{0, 6, 7}, 1, 10, []int64{0, 16, 7}},
		// Only the run that is delayed matters.
		{[]int64{100000, 0}, 1, 5, []int64{100000, 5}}, {[]int64{0, 100000}, 0, 5, []int64{5, 100000}}, {[]int64{100000, 0}, 0, 5, nil},
		{counted(12), 11, 99989, append(counted(11), 100000)}, {counted(12), 11, 99990, nil},
	} {
		var runs, want []impl.Run
		for i, start := range c.starts {
			runs = append(runs, runFrom(start, int64(i)%2, 0))
		}
		for i, start := range c.want {
			want = append(want, runFrom(start, int64(i)%2, 0))
		}
		wantCode := int64(impl.OK)
		if want == nil {
			wantCode = impl.ErrFull
		}
		delayed, code := impl.DelayRun(exampleTimes(), runs, c.k, c.by)
		check(t, fmt.Sprint(c), code, wantCode)
		check(t, fmt.Sprint(c), delayed, want)
	}
	// A run may be delayed although it meets another one then.
	delayed, code := impl.DelayRun(exampleTimes(), []impl.Run{runFrom(0, 0), runFrom(5, 0)}, 0, 5)
	check(t, "meeting", []any{delayed, code}, []any{[]impl.Run{runFrom(5, 0), runFrom(5, 0)}, int64(impl.OK)})
}

func TestFreeAt(t *testing.T) {
	one := []impl.Run{runFrom(0, 0, 1)}
	again := []impl.Run{runFrom(3, 1, 0, 1), runFrom(20, 1)}
	late := []impl.Run{runFrom(100000, slices.Repeat([]int64{0}, 12)...)}
	for _, c := range []struct {
		runs     []impl.Run
		tube     int64
		from, to int64
		want     bool
	}{
		{nil, 0, 0, 200000, true}, {nil, 1, 100000, 200000, true}, {one, 0, 0, 1, false}, {one, 0, 4, 5, false}, {one, 0, 4, 6, false}, {one, 0, 5, 200000, true}, {one, 0, 5, 6, true},
		{one, 1, 0, 5, true}, {one, 1, 0, 6, false}, {one, 1, 7, 8, false}, {one, 1, 8, 200000, true}, {one, 1, 6, 7, false}, {one, 1, 0, 200000, false}, {one, 1, 5, 8, false}, {one, 1, 4, 9, false},
		// From equal to to: there is no tick, not even inside a span.
		{one, 0, 0, 0, true}, {one, 0, 2, 2, true}, {one, 1, 5, 5, true}, {one, 1, 6, 6, true}, {one, 1, 7, 7, true}, {one, 1, 8, 8, true}, {late, 0, 100000, 100000, true}, {nil, 0, 100000, 100000, true},
		// In the breaks between spans of one tube.
		{again, 1, 0, 3, true}, {again, 1, 0, 4, false}, {again, 1, 5, 6, false}, {again, 1, 6, 11, true}, {again, 1, 6, 12, false}, {again, 1, 5, 11, false}, {again, 1, 14, 20, true}, {again, 1, 13, 20, false},
		{again, 1, 14, 21, false}, {again, 1, 22, 23, false}, {again, 1, 23, 24, true}, {again, 0, 6, 11, false}, {again, 0, 11, 100, true}, {again, 0, 0, 6, true},
		// The latest ticks.
		{late, 0, 99999, 100000, true}, {late, 0, 99999, 100001, false}, {late, 0, 100000, 100001, false}, {late, 0, 100000, 200000, false}, {late, 0, 0, 100000, true}, {late, 1, 0, 200000, true},
		{[]impl.Run{runFrom(99995, 0)}, 0, 100000, 200000, true}, {[]impl.Run{runFrom(99996, 0)}, 0, 100000, 200000, false}, {[]impl.Run{runFrom(99996, 0)}, 0, 100000, 100001, false},
	} {
		free, code := impl.FreeAt(exampleTimes(), c.runs, c.tube, c.from, c.to)
		check(t, fmt.Sprint(c), []any{free, code}, []any{c.want, int64(impl.OK)})
	}
}

// runArgs are arguments of the functions of chapter 6; way and start also tell a run.
type runArgs struct {
	times                        []int64
	runs                         []impl.Run
	way                          []int64
	start, from, to, tube, k, by int64
}

// runCalls are the functions of chapter 6; each returns its results, the code last.
func runCalls(x runArgs) map[string][]any {
	calls := map[string][]any{}
	put := func(name string, results ...any) { calls[name] = results }
	run := impl.Run{Way: x.way, Start: x.start}
	spans, code := impl.SpansOf(x.times, run)
	put("SpansOf", spans, code)
	end, code := impl.EndOfRun(x.times, run)
	put("EndOfRun", end, code)
	i, k, tube, code := impl.FirstMeeting(x.times, x.runs)
	put("FirstMeeting", i, k, tube, code)
	start, code := impl.EarliestStart(x.times, x.runs, x.way, x.from)
	put("EarliestStart", start, code)
	in, code := impl.SpansIn(x.times, x.runs, x.tube)
	put("SpansIn", in, code)
	used, code := impl.TicksUsed(x.times, x.runs)
	put("TicksUsed", used, code)
	delayed, code := impl.DelayRun(x.times, x.runs, x.k, x.by)
	put("DelayRun", delayed, code)
	free, code := impl.FreeAt(x.times, x.runs, x.tube, x.from, x.to)
	put("FreeAt", free, code)
	return calls
}

var (
	oneRunCalls = []string{"SpansOf", "EndOfRun"}
	runsCalls   = []string{"FirstMeeting", "EarliestStart", "SpansIn", "TicksUsed", "DelayRun", "FreeAt"}
)

// plainArgs are arguments with which no function has an error, but FirstMeeting without a meeting.
func plainArgs(runs []impl.Run) runArgs {
	return runArgs{times: exampleTimes(), runs: runs, way: []int64{0, 1}, to: 5}
}

func TestPlainRunCalls(t *testing.T) {
	calls := runCalls(plainArgs([]impl.Run{runFrom(0, 0), runFrom(0, 0)}))
	for _, name := range append(slices.Clone(oneRunCalls), runsCalls...) {
		results := calls[name]
		check(t, name, results[len(results)-1], int64(impl.OK))
	}
}

// Invalid times and runs go before everything else.
func TestInvalidReservations(t *testing.T) {
	for _, number := range []int64{0, 1, -1, 24, 100001, math.MinInt64, math.MaxInt64} {
		for _, way := range [][]int64{{0}, nil, {-1}, {24}} {
			x := runArgs{way: way, start: number, from: number, to: number, tube: number, k: number, by: number}
			for _, times := range invalidTimes() {
				x.times = times
				for _, runs := range [][]impl.Run{nil, {runFrom(0, 0)}, {runFrom(-1, -1)}} {
					x.runs = runs
					checkErrorResults(t, runCalls(x), impl.ErrInvalid, append(slices.Clone(oneRunCalls), runsCalls...)...)
				}
			}
			x.times = exampleTimes()
			for _, runs := range invalidRuns() {
				x.runs = runs
				checkErrorResults(t, runCalls(x), impl.ErrInvalid, runsCalls...)
			}
		}
	}
}

// A run that is none is invalid by itself, and out of range as a way.
func TestRunsThatAreNone(t *testing.T) {
	for _, runs := range cornerRuns() {
		for _, way := range wrongWays() {
			x := plainArgs(runs)
			x.way = way
			checkErrorResults(t, runCalls(x), impl.ErrInvalid, oneRunCalls...)
			checkErrorResults(t, runCalls(x), impl.ErrRange, "EarliestStart")
			// Also where no start would be early enough.
			x.from = 100000
			checkErrorResults(t, runCalls(x), impl.ErrRange, "EarliestStart")
		}
	}
	for _, start := range wrongStarts {
		x := plainArgs(nil)
		x.start = start
		checkErrorResults(t, runCalls(x), impl.ErrInvalid, oneRunCalls...)
	}
}

func TestReservationRangeErrors(t *testing.T) {
	for _, runs := range cornerRuns() {
		for _, number := range []int64{math.MinInt64, math.MinInt64 + 1, -100000, -1, 100001, 200000, 200001, math.MaxInt64} {
			x := plainArgs(runs)
			x.from, x.tube, x.k, x.by = number, number, 0, number
			checkErrorResults(t, runCalls(x), impl.ErrRange, "EarliestStart", "SpansIn", "DelayRun", "FreeAt")
			x.to, x.tube = number, 0
			checkErrorResults(t, runCalls(x), impl.ErrRange, "EarliestStart", "DelayRun", "FreeAt")
		}
		for _, tube := range []int64{math.MinInt64, -1, 2, 3, 24, math.MaxInt64} {
			x := plainArgs(runs)
			x.tube = tube
			checkErrorResults(t, runCalls(x), impl.ErrRange, "SpansIn", "FreeAt")
		}
		// A number of a run, also with a delay that would be too long.
		for _, k := range []int64{math.MinInt64, -1, int64(len(runs)), int64(len(runs)) + 1, 12, math.MaxInt64} {
			for _, by := range []int64{0, 100000, 100001} {
				x := plainArgs(runs)
				x.k, x.by = k, by
				checkErrorResults(t, runCalls(x), impl.ErrRange, "DelayRun")
			}
		}
		for _, ticks := range [][2]int64{{0, -1}, {1, 0}, {6, 5}, {6, math.MinInt64}, {100000, 99999}, {100000, 0}, {0, 200001}, {100000, 200001}, {0, math.MaxInt64}, {-1, 5}, {100001, 100001}, {100001, 200000}, {math.MinInt64, 0}, {math.MinInt64, math.MaxInt64}, {math.MaxInt64, math.MinInt64}} {
			x := plainArgs(runs)
			x.from, x.to = ticks[0], ticks[1]
			checkErrorResults(t, runCalls(x), impl.ErrRange, "FreeAt")
		}
	}
}

func TestFullReservations(t *testing.T) {
	x := plainArgs([]impl.Run{runFrom(100000, 0, 1)})
	x.from, x.by = 100000, 1
	checkErrorResults(t, runCalls(x), impl.ErrFull, "EarliestStart", "DelayRun")
	checkErrorResults(t, runCalls(x), impl.ErrNotFound, "FirstMeeting")
}
