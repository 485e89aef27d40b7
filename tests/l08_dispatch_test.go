package tests

import (
	"fmt"
	"math"
	"slices"
	"testing"

	"loop.example/g01046/impl"
)

func wish(ready, due int64, way ...int64) impl.Wish {
	return impl.Wish{Way: way, Ready: ready, Due: due}
}

// sameWishes are as many as told, all with one way.
func sameWishes(count int, ready, due int64, way ...int64) []impl.Wish {
	return slices.Repeat([]impl.Wish{wish(ready, due, way...)}, count)
}

// longWay goes twelve times through one tube.
func longWay(tube int64) []int64 { return slices.Repeat([]int64{tube}, 12) }

// cornerWishes are valid for two times, and lie at the limits.
func cornerWishes() [][]impl.Wish {
	return [][]impl.Wish{
		nil, {}, {wish(0, 0, 0)}, {wish(10000, 10000, 1)}, {wish(0, 10000, 1)}, {wish(10000, 0, 0)}, {wish(7, 6, 0, 1)},
		{wish(0, 0, longWay(0)...)}, {wish(10000, 10000, slices.Repeat([]int64{1, 0}, 6)...)}, {wish(3, 9, 0, 0, 0), wish(3, 9, 0, 0, 0)}, {wish(0, 9, 0, 1), wish(6, 20, 1, 0), wish(6, 20, 1)},
		sameWishes(5, 1, 2, 1), sameWishes(6, 0, 0, 0), sameWishes(6, 10000, 10000, longWay(1)...),
	}
}

var wrongWished = []int64{math.MinInt64, -10000, -1, 10001, 100000, math.MaxInt64}

// invalidWishes are none for two times.
func invalidWishes() [][]impl.Wish {
	list := [][]impl.Wish{sameWishes(7, 0, 0, 0), sameWishes(8, 10000, 0, 1, 0), sameWishes(12, 0, 0, 0), sameWishes(100000, 0, 0, 0), make([]impl.Wish, 1), make([]impl.Wish, 6), make([]impl.Wish, 7)}
	var wrong []impl.Wish
	for _, way := range wrongWays() {
		wrong = append(wrong, wish(0, 0, way...))
	}
	for _, tick := range wrongWished {
		wrong = append(wrong, wish(tick, 0, 0), wish(0, tick, 0), wish(tick, 10000, 0), wish(10000, tick, 0, 1), wish(tick, tick, 1), wish(tick, tick))
	}
	for _, w := range wrong {
		list = append(list, []impl.Wish{w}, []impl.Wish{wish(0, 0, 0), w}, []impl.Wish{w, wish(0, 0, 0), wish(0, 0, 1)}, append(sameWishes(5, 0, 0, 0), w))
	}
	return list
}

// reversed has the indices of so many wishes, the last one first.
func reversed(count int) []int64 {
	order := counted(int64(count))
	slices.Reverse(order)
	return order
}

// wrongOrders are none of so many wishes.
func wrongOrders(count int) [][]int64 {
	list := [][]int64{append(counted(int64(count)), 0), append(counted(int64(count)), int64(count)), append([]int64{-1}, counted(int64(count))...), slices.Repeat([]int64{0}, count+1), counted(int64(count + 2)), counted(100000)}
	if count == 0 {
		return list
	}
	list = append(list, nil, []int64{}, counted(int64(count-1)), counted(int64(count))[1:], reversed(count)[1:])
	for place := range count {
		for _, k := range []int64{math.MinInt64, -1, int64(count), int64(count + 1), 6, math.MaxInt64} {
			if k < 0 || k >= int64(count) {
				list = append(list, withNumber(counted(int64(count)), place, k), withNumber(reversed(count), place, k))
			}
		}
		// An index twice, and so another one not at all.
		for k := range count {
			if k != place {
				list = append(list, withNumber(counted(int64(count)), place, int64(k)))
			}
		}
	}
	return list
}

func withNumber(list []int64, place int, number int64) []int64 {
	list[place] = number
	return list
}

func TestDispatchLimits(t *testing.T) {
	check(t, "limit", impl.MaxWishes, 6)
}

func TestExampleOfDispatch(t *testing.T) {
	times, list := []int64{5}, []impl.Wish{wish(0, 5, 0), wish(1, 20, 0)}
	starts, code := impl.PlanByOrder(times, list, []int64{1, 0})
	check(t, "order 1, 0", []any{starts, code}, []any{[]int64{6, 1}, int64(impl.OK)})
	starts, code = impl.PlanByOrder(times, list, []int64{0, 1})
	check(t, "order 0, 1", []any{starts, code}, []any{[]int64{0, 5}, int64(impl.OK)})
}

func TestValidWishes(t *testing.T) {
	for _, list := range cornerWishes() {
		check(t, fmt.Sprint(list), impl.ValidWishes(exampleTimes(), list), true)
		for _, times := range invalidTimes() {
			check(t, brief(times, list), impl.ValidWishes(times, list), false)
		}
	}
	for _, list := range invalidWishes() {
		check(t, brief(list), impl.ValidWishes(exampleTimes(), list), false)
	}
	for count := range 10 {
		check(t, fmt.Sprint(count), impl.ValidWishes(exampleTimes(), sameWishes(count, 0, 0, 1)), count <= 6)
	}
	for tubes := range 15 {
		list := []impl.Wish{wish(0, 0, slices.Repeat([]int64{1}, tubes)...)}
		check(t, fmt.Sprint(tubes), impl.ValidWishes(exampleTimes(), list), 1 <= tubes && tubes <= 12)
	}
	// Each number of times has its own last tube.
	for count := int64(1); count <= 24; count++ {
		for tube := int64(-1); tube <= 25; tube++ {
			valid := impl.ValidWishes(slices.Repeat([]int64{1}, int(count)), []impl.Wish{wish(0, 0, 0, tube)})
			check(t, fmt.Sprint(count, tube), valid, 0 <= tube && tube < count)
		}
	}
}

// planCase tells when carriers begin in an order, with the times 5 and 3.
type planCase struct {
	list  []impl.Wish
	order []int64
	want  []int64
}

func planCases() []planCase {
	near := func(ready int64) []impl.Wish { return []impl.Wish{wish(0, 0, 0), wish(ready, 0, 0), wish(0, 0, 0)} }
	nearLong := func(ready int64) []impl.Wish { return []impl.Wish{wish(0, 0, 1), wish(ready, 0, 0), wish(0, 0, 1, 0)} }
	crossed := []impl.Wish{wish(0, 0, 0), wish(10, 0, 1), wish(0, 0, 0, 1), wish(12, 0, 0)}
	again := []impl.Wish{wish(0, 0, 1, 0, 1), wish(0, 0, 1), wish(0, 0, 1)}
	return []planCase{
		{nil, nil, nil}, {[]impl.Wish{wish(0, 0, 0)}, []int64{0}, []int64{0}}, {[]impl.Wish{wish(10000, 0, 0, 1)}, []int64{0}, []int64{10000}}, {[]impl.Wish{wish(77, 0, 0, 0)}, []int64{0}, []int64{77}},
		{[]impl.Wish{wish(0, 0, 0), wish(1, 0, 0)}, []int64{1, 0}, []int64{6, 1}}, {[]impl.Wish{wish(0, 0, 0), wish(5, 0, 0)}, []int64{1, 0}, []int64{0, 5}}, {[]impl.Wish{wish(0, 0, 0), wish(4, 0, 0)}, []int64{1, 0}, []int64{9, 4}},
		// Other tubes, and other ticks, do not matter.
		{[]impl.Wish{wish(0, 0, 0), wish(0, 0, 1)}, []int64{1, 0}, []int64{0, 0}}, {[]impl.Wish{wish(0, 0, 0), wish(50, 0, 0), wish(20, 0, 0)}, []int64{1, 0, 2}, []int64{0, 50, 20}},
		// Between two carriers: exactly, a tick too near, and with a tick more.
		{near(10), []int64{0, 1, 2}, []int64{0, 10, 5}}, {near(9), []int64{0, 1, 2}, []int64{0, 9, 14}}, {near(11), []int64{0, 1, 2}, []int64{0, 11, 5}}, {near(10), []int64{1, 0, 2}, []int64{0, 10, 5}}, {near(9), []int64{1, 2, 0}, []int64{14, 9, 0}}, {near(9), []int64{2, 0, 1}, []int64{5, 10, 0}},
		{nearLong(11), []int64{0, 1, 2}, []int64{0, 11, 3}}, {nearLong(10), []int64{0, 1, 2}, []int64{0, 10, 12}}, {nearLong(10), []int64{2, 1, 0}, []int64{3, 10, 0}}, {nearLong(7), []int64{2, 1, 0}, []int64{3, 8, 0}},
		// The same Ready: the order alone decides.
		{sameWishes(3, 4, 0, 0), []int64{0, 1, 2}, []int64{4, 9, 14}}, {sameWishes(3, 4, 0, 0), []int64{2, 0, 1}, []int64{9, 14, 4}}, {sameWishes(6, 0, 0, 0), reversed(6), []int64{25, 20, 15, 10, 5, 0}}, {sameWishes(6, 1, 0, 1), []int64{3, 1, 4, 0, 5, 2}, []int64{10, 4, 16, 1, 7, 13}},
		// A carrier that begins behind one of the others may meet another one there.
		{crossed, []int64{0, 1, 2, 3}, []int64{0, 10, 8, 13}}, {crossed, []int64{0, 1, 3, 2}, []int64{0, 10, 17, 12}}, {crossed, []int64{3, 1, 0, 2}, []int64{0, 10, 17, 12}}, {crossed, []int64{2, 3, 1, 0}, []int64{5, 10, 0, 12}},
		// A way that goes through one tube several times.
		{again, []int64{0, 1, 2}, []int64{0, 3, 11}}, {again, []int64{0, 2, 1}, []int64{0, 11, 3}}, {again, []int64{1, 2, 0}, []int64{6, 0, 3}}, {again, []int64{1, 0, 2}, []int64{3, 0, 6}},
		{[]impl.Wish{wish(0, 0, 0, 0, 0), wish(3, 0, 0)}, []int64{0, 1}, []int64{0, 15}}, {[]impl.Wish{wish(0, 0, 0, 0, 0), wish(3, 0, 0)}, []int64{1, 0}, []int64{8, 3}}, {[]impl.Wish{wish(0, 0, 0, 1, 0), wish(0, 0, 0)}, []int64{0, 1}, []int64{0, 13}},
		{[]impl.Wish{wish(0, 0, longWay(1)...), wish(0, 0, longWay(1)...)}, []int64{1, 0}, []int64{36, 0}}, {sameWishes(6, 10000, 0, longWay(0)...), counted(6), []int64{10000, 10060, 10120, 10180, 10240, 10300}},
		// The Due does not matter, nor does the order of the indices.
		{[]impl.Wish{wish(0, 0, 0), wish(0, 10000, 0)}, []int64{1, 0}, []int64{5, 0}}, {[]impl.Wish{wish(0, 10000, 0), wish(0, 0, 0)}, []int64{1, 0}, []int64{5, 0}},
	}
}

// checkOfOrder compares all functions of an order with what follows from the ticks at which the carriers begin.
func checkOfOrder(t *testing.T, times []int64, list []impl.Wish, order, starts []int64) {
	t.Helper()
	name := fmt.Sprint(times, list, order)
	var late []int64
	var runs []impl.Run
	delays, last := int64(0), int64(0)
	for k, w := range list {
		end := starts[k]
		for _, tube := range w.Way {
			end += times[tube]
		}
		if end > w.Due {
			late = append(late, int64(k))
		}
		runs = append(runs, runFrom(starts[k], w.Way...))
		delays += starts[k] - w.Ready
		last = max(last, end)
	}
	got, code := impl.PlanByOrder(times, list, order)
	check(t, name, code, int64(impl.OK))
	check(t, name, got, starts)
	sum, code := impl.SumOfDelays(times, list, order)
	check(t, name, []int64{sum, code}, []int64{delays, impl.OK})
	gotLate, code := impl.LateWishes(times, list, order)
	check(t, name, code, int64(impl.OK))
	check(t, name, gotLate, late)
	gotRuns, code := impl.RunsOfPlan(times, list, order)
	check(t, name, code, int64(impl.OK))
	check(t, name, gotRuns, runs)
	gotLast, code := impl.LastEnd(times, list, order)
	check(t, name, []int64{gotLast, code}, []int64{last, impl.OK})
}

func TestPlans(t *testing.T) {
	for _, c := range planCases() {
		checkOfOrder(t, exampleTimes(), c.list, c.order, c.want)
	}
}

func TestPlansOfShortAndLongTimes(t *testing.T) {
	for _, c := range []struct {
		times []int64
		planCase
	}{
		{[]int64{1}, planCase{sameWishes(6, 0, 0, 0), counted(6), counted(6)}},
		{[]int64{1000}, planCase{sameWishes(2, 0, 0, 0), []int64{1, 0}, []int64{1000, 0}}},
		{[]int64{1000, 1}, planCase{[]impl.Wish{wish(0, 0, 0), wish(1999, 0, 1), wish(0, 0, 0, 1)}, counted(3), []int64{0, 1999, 1000}}},
		{[]int64{1000, 1}, planCase{[]impl.Wish{wish(0, 0, 0), wish(2000, 0, 1), wish(0, 0, 0, 1)}, counted(3), []int64{0, 2000, 1001}}},
		// No carrier ever begins later than this, so that there is always a start.
		{[]int64{1000}, planCase{sameWishes(6, 10000, 0, longWay(0)...), counted(6), []int64{10000, 22000, 34000, 46000, 58000, 70000}}},
		{slices.Repeat([]int64{1000}, 24), planCase{[]impl.Wish{wish(10000, 0, longWay(23)...), wish(9999, 0, longWay(23)...)}, []int64{0, 1}, []int64{10000, 22000}}},
		{slices.Repeat([]int64{1000}, 24), planCase{[]impl.Wish{wish(0, 0, counted(12)...), wish(0, 0, counted(24)[12:]...), wish(0, 0, counted(18)[6:]...), wish(500, 0, 23, 0)}, counted(4), []int64{0, 0, 0, 500}}},
	} {
		checkOfOrder(t, c.times, c.list, c.order, c.want)
	}
}

func TestSumOfDelaysAndLastEnd(t *testing.T) {
	for _, c := range []struct {
		list      []impl.Wish
		order     []int64
		sum, last int64
	}{
		{nil, nil, 0, 0}, {[]impl.Wish{wish(9, 0, 0)}, []int64{0}, 0, 14}, {[]impl.Wish{wish(0, 0, 0), wish(1, 0, 0)}, []int64{1, 0}, 6, 11}, {[]impl.Wish{wish(0, 0, 0), wish(1, 0, 0)}, []int64{0, 1}, 4, 10},
		{sameWishes(6, 0, 0, 0), reversed(6), 75, 30}, {sameWishes(6, 10000, 0, longWay(0)...), counted(6), 900, 10360},
		// The last end is not always that of the last carrier that begins, of the last index, or of the last one of the order.
		{[]impl.Wish{wish(0, 0, 0, 0, 0), wish(2, 0, 1)}, []int64{0, 1}, 0, 15}, {[]impl.Wish{wish(40, 0, 1), wish(2, 0, 1)}, []int64{0, 1}, 0, 43},
	} {
		sum, one := impl.SumOfDelays(exampleTimes(), c.list, c.order)
		last, two := impl.LastEnd(exampleTimes(), c.list, c.order)
		check(t, fmt.Sprint(c), []int64{sum, one, last, two}, []int64{c.sum, impl.OK, c.last, impl.OK})
	}
}

func TestLateWishes(t *testing.T) {
	for _, c := range []struct {
		list  []impl.Wish
		order []int64
		want  []int64
	}{
		{nil, nil, nil},
		// Done exactly at the Due, and one tick later.
		{[]impl.Wish{wish(0, 5, 0)}, []int64{0}, nil}, {[]impl.Wish{wish(0, 4, 0)}, []int64{0}, []int64{0}}, {[]impl.Wish{wish(2, 10, 0, 1)}, []int64{0}, nil}, {[]impl.Wish{wish(2, 9, 0, 1)}, []int64{0}, []int64{0}}, {[]impl.Wish{wish(9995, 10000, 0)}, []int64{0}, nil}, {[]impl.Wish{wish(9996, 10000, 0)}, []int64{0}, []int64{0}},
		// One that begins later because of another one.
		{sameWishes(2, 0, 10, 0), []int64{1, 0}, nil}, {sameWishes(2, 0, 9, 0), []int64{1, 0}, []int64{0}}, {sameWishes(2, 0, 9, 0), []int64{0, 1}, []int64{1}}, {sameWishes(2, 0, 4, 0), []int64{0, 1}, []int64{0, 1}},
		// A Due in front of the Ready, and at the Ready.
		{[]impl.Wish{wish(9, 8, 0)}, []int64{0}, []int64{0}}, {[]impl.Wish{wish(10000, 0, 1)}, []int64{0}, []int64{0}}, {[]impl.Wish{wish(9, 9, 1)}, []int64{0}, []int64{0}}, {[]impl.Wish{wish(0, 0, 0)}, []int64{0}, []int64{0}},
		// None and all of 6, and by indices where the order has another one.
		{sameWishes(6, 0, 30, 0), reversed(6), nil}, {sameWishes(6, 0, 29, 0), reversed(6), []int64{0}}, {sameWishes(6, 0, 4, 0), reversed(6), counted(6)}, {sameWishes(6, 0, 15, 0), reversed(6), []int64{0, 1, 2}}, {sameWishes(6, 0, 15, 0), []int64{5, 0, 3, 4, 1, 2}, []int64{1, 2, 4}},
	} {
		late, code := impl.LateWishes(exampleTimes(), c.list, c.order)
		check(t, fmt.Sprint(c), code, int64(impl.OK))
		check(t, fmt.Sprint(c), late, c.want)
	}
}

// bestCase is the first one of the best orders, and what is least in it, with the times 5 and 3.
type bestCase struct {
	list  []impl.Wish
	order []int64
	least int64
}

func TestBestOrder(t *testing.T) {
	for _, c := range []bestCase{
		{nil, nil, 0}, {[]impl.Wish{wish(10000, 0, 0)}, []int64{0}, 0},
		{[]impl.Wish{wish(0, 5, 0), wish(1, 20, 0)}, []int64{0, 1}, 4}, {[]impl.Wish{wish(1, 5, 0), wish(0, 20, 0)}, []int64{1, 0}, 4},
		// No delays: the first one of all orders.
		{[]impl.Wish{wish(20, 0, 0), wish(10, 0, 0), wish(0, 0, 0)}, []int64{0, 1, 2}, 0}, {[]impl.Wish{wish(3, 0, 0), wish(3, 0, 1)}, []int64{0, 1}, 0},
		// Equal carriers: all orders have the same sum.
		{sameWishes(2, 0, 0, 0), []int64{0, 1}, 5}, {sameWishes(6, 7, 0, 0), counted(6), 75}, {sameWishes(6, 10000, 0, longWay(1)...), counted(6), 540},
		// A short way goes first, though it is ready later, or is due later.
		{[]impl.Wish{wish(0, 0, 0, 0, 0), wish(0, 0, 0)}, []int64{1, 0}, 5}, {[]impl.Wish{wish(0, 0, 0, 0, 0), wish(4, 9, 0)}, []int64{1, 0}, 9}, {[]impl.Wish{wish(0, 0, 0, 0, 0), wish(5, 0, 0)}, []int64{0, 1}, 10}, {[]impl.Wish{wish(0, 15, 0, 0, 0), wish(3, 10000, 0)}, []int64{1, 0}, 8},
		// Several orders with the same least sum, of which the first one does not begin with the index 0.
		{[]impl.Wish{wish(0, 0, 0, 0, 0), wish(0, 0, 0), wish(0, 0, 0)}, []int64{1, 2, 0}, 15}, {[]impl.Wish{wish(0, 0, 0, 0, 0), wish(0, 0, 1), wish(0, 0, 0)}, []int64{1, 2, 0}, 5}, {[]impl.Wish{wish(0, 0, 0, 0), wish(0, 0, 0), wish(99, 0, 1)}, []int64{1, 0, 2}, 5},
		{[]impl.Wish{wish(30, 0, 1), wish(0, 0, 0, 0), wish(0, 0, 0)}, []int64{0, 2, 1}, 5},
		// Where both orders of two carriers have the same sum, the lesser index goes first.
		{[]impl.Wish{wish(0, 0, 0, 1), wish(0, 0, 1, 0)}, []int64{0, 1}, 2}, {[]impl.Wish{wish(1, 0, 0), wish(1, 0, 0), wish(0, 0, 1)}, []int64{0, 1, 2}, 5},
	} {
		order, sum, code := impl.BestOrder(exampleTimes(), c.list)
		check(t, fmt.Sprint(c), []int64{sum, code}, []int64{c.least, impl.OK})
		check(t, fmt.Sprint(c), order, c.order)
	}
}

func TestFewestLate(t *testing.T) {
	for _, c := range []bestCase{
		{nil, nil, 0}, {[]impl.Wish{wish(0, 5, 0)}, []int64{0}, 0}, {[]impl.Wish{wish(0, 4, 0)}, []int64{0}, 1},
		// None late in any order, all late in every order.
		{sameWishes(6, 0, 30, 0), counted(6), 0}, {sameWishes(6, 0, 10000, 0), counted(6), 0}, {sameWishes(6, 0, 4, 0), counted(6), 6}, {sameWishes(6, 10000, 0, 1), counted(6), 6}, {[]impl.Wish{wish(9, 8, 0), wish(3, 3, 1)}, []int64{0, 1}, 2},
		// Some of equal carriers are late in every order.
		{sameWishes(6, 0, 15, 0), counted(6), 3}, {sameWishes(6, 0, 5, 0), counted(6), 5},
		// One order with none late; a tick less, and all have one.
		{[]impl.Wish{wish(0, 10, 0), wish(0, 5, 0)}, []int64{1, 0}, 0}, {[]impl.Wish{wish(0, 9, 0), wish(0, 5, 0)}, []int64{0, 1}, 1}, {[]impl.Wish{wish(0, 10, 0), wish(0, 4, 0)}, []int64{0, 1}, 1}, {[]impl.Wish{wish(0, 15, 0), wish(0, 10, 0), wish(0, 5, 0)}, []int64{2, 1, 0}, 0},
		// Several orders with the fewest late ones, of which the first one is not that of the indices.
		{[]impl.Wish{wish(0, 15, 0), wish(0, 15, 0), wish(0, 5, 0)}, []int64{2, 0, 1}, 0}, {[]impl.Wish{wish(0, 15, 0), wish(0, 10, 0), wish(0, 10, 0)}, []int64{1, 2, 0}, 0}, {[]impl.Wish{wish(0, 8, 1), wish(0, 10, 0), wish(0, 5, 0)}, []int64{0, 2, 1}, 0},
		// One that is late anyway goes behind the others; how late it is does not matter, nor do the delays.
		{[]impl.Wish{wish(0, 0, 0), wish(0, 5, 0), wish(0, 10, 0)}, []int64{1, 2, 0}, 1}, {[]impl.Wish{wish(0, 14, 0, 0, 0), wish(0, 19, 0)}, []int64{1, 0}, 1}, {[]impl.Wish{wish(0, 14, 0, 0, 0), wish(0, 20, 0)}, []int64{0, 1}, 1},
		{[]impl.Wish{wish(0, 15, 0, 0, 0), wish(0, 20, 0)}, []int64{0, 1}, 0},
	} {
		order, late, code := impl.FewestLate(exampleTimes(), c.list)
		check(t, fmt.Sprint(c), []int64{late, code}, []int64{c.least, impl.OK})
		check(t, fmt.Sprint(c), order, c.order)
	}
}

// wishesWith have these ticks as Ready and as Due, one of them in the other order.
func wishesWith(ready, due []int64) []impl.Wish {
	var list []impl.Wish
	for k := range ready {
		list = append(list, wish(ready[k], due[k], int64(k)%2))
	}
	return list
}

func TestReadyAndDueOrders(t *testing.T) {
	for _, c := range []struct{ ticks, want []int64 }{
		{nil, nil}, {[]int64{0}, []int64{0}}, {[]int64{10000}, []int64{0}}, {[]int64{0, 10000}, []int64{0, 1}}, {[]int64{10000, 0}, []int64{1, 0}},
		// The same tick: by their indices.
		{[]int64{7, 7}, []int64{0, 1}}, {[]int64{7, 7, 7, 7, 7, 7}, counted(6)}, {[]int64{0, 0, 0}, counted(3)}, {[]int64{5, 3, 5, 3, 5, 3}, []int64{1, 3, 5, 0, 2, 4}}, {[]int64{9, 9, 1}, []int64{2, 0, 1}}, {[]int64{1, 9, 9, 1, 0}, []int64{4, 0, 3, 1, 2}},
		// Numbers, not texts, are ordered.
		{[]int64{100, 20, 3}, []int64{2, 1, 0}}, {[]int64{9, 10, 99, 100, 999, 1000}, counted(6)}, {[]int64{6, 5, 4, 3, 2, 1}, reversed(6)},
	} {
		// The other tick, and the ways, do not matter.
		others := make([]int64, len(c.ticks))
		for k := range others {
			others[k] = int64(len(others) - k)
		}
		for _, other := range [][]int64{others, make([]int64, len(c.ticks)), c.ticks} {
			order, code := impl.ReadyOrder(exampleTimes(), wishesWith(c.ticks, other))
			check(t, fmt.Sprint("ready ", c, other), code, int64(impl.OK))
			check(t, fmt.Sprint("ready ", c, other), order, c.want)
			order, code = impl.DueOrder(exampleTimes(), wishesWith(other, c.ticks))
			check(t, fmt.Sprint("due ", c, other), code, int64(impl.OK))
			check(t, fmt.Sprint("due ", c, other), order, c.want)
		}
	}
}

// dispatchCalls are the functions of chapter 8; each returns its results, the code last.
func dispatchCalls(times []int64, list []impl.Wish, order []int64) map[string][]any {
	calls := map[string][]any{}
	put := func(name string, results ...any) { calls[name] = results }
	starts, code := impl.PlanByOrder(times, list, order)
	put("PlanByOrder", starts, code)
	sum, code := impl.SumOfDelays(times, list, order)
	put("SumOfDelays", sum, code)
	late, code := impl.LateWishes(times, list, order)
	put("LateWishes", late, code)
	runs, code := impl.RunsOfPlan(times, list, order)
	put("RunsOfPlan", runs, code)
	last, code := impl.LastEnd(times, list, order)
	put("LastEnd", last, code)
	best, sum, code := impl.BestOrder(times, list)
	put("BestOrder", best, sum, code)
	fewest, many, code := impl.FewestLate(times, list)
	put("FewestLate", fewest, many, code)
	ready, code := impl.ReadyOrder(times, list)
	put("ReadyOrder", ready, code)
	due, code := impl.DueOrder(times, list)
	put("DueOrder", due, code)
	return calls
}

var (
	orderCalls       = []string{"PlanByOrder", "SumOfDelays", "LateWishes", "RunsOfPlan", "LastEnd"}
	wishCalls        = []string{"BestOrder", "FewestLate", "ReadyOrder", "DueOrder"}
	allDispatchCalls = slices.Concat(orderCalls, wishCalls)
)

func TestPlainDispatchCalls(t *testing.T) {
	for _, list := range cornerWishes() {
		for _, order := range [][]int64{counted(int64(len(list))), reversed(len(list))} {
			for name, results := range dispatchCalls(exampleTimes(), list, order) {
				check(t, fmt.Sprint(name, list, order), results[len(results)-1], int64(impl.OK))
			}
		}
	}
}

// Invalid times and wishes go before orders that are none.
func TestInvalidWishes(t *testing.T) {
	for _, times := range invalidTimes() {
		for _, list := range [][]impl.Wish{nil, {}, {wish(0, 0, 0)}, {wish(-1, -1)}, sameWishes(6, 0, 0, 0), sameWishes(7, 0, 0, 0)} {
			for _, order := range [][]int64{nil, {0}, counted(int64(len(list))), {-1}, slices.Repeat([]int64{0}, len(list))} {
				checkErrorResults(t, dispatchCalls(times, list, order), impl.ErrInvalid, allDispatchCalls...)
			}
		}
	}
	for _, list := range invalidWishes() {
		for _, order := range [][]int64{nil, counted(int64(len(list))), {0}, {math.MinInt64}, {0, 0}} {
			checkErrorResults(t, dispatchCalls(exampleTimes(), list, order), impl.ErrInvalid, allDispatchCalls...)
		}
	}
}

func TestOrdersThatAreNone(t *testing.T) {
	for _, list := range cornerWishes() {
		for _, order := range wrongOrders(len(list)) {
			checkErrorResults(t, dispatchCalls(exampleTimes(), list, order), impl.ErrRange, orderCalls...)
		}
	}
	for count := range 6 {
		for _, order := range wrongOrders(count) {
			checkErrorResults(t, dispatchCalls(exampleTimes(), sameWishes(count, 4, 4, 0), order), impl.ErrRange, orderCalls...)
		}
	}
}
