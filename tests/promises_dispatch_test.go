package tests

import (
	"fmt"
	"math/rand/v2"
	"slices"
	"testing"

	"loop.example/g01046/impl"
)

// timedWishes are wishes with the times for which they are valid.
type timedWishes struct {
	times []int64
	list  []impl.Wish
}

func (x timedWishes) String() string { return fmt.Sprint(x.times, x.list) }

// drawnWishes are so many at most, with few tubes, short times and few different ticks, so that many carriers meet and many orders are equally good.
func drawnWishes(seed uint64, count, most int) []timedWishes {
	r := rand.New(rand.NewPCG(seed, 8))
	var list []timedWishes
	for range count {
		var x timedWishes
		for range []int{1, 2, 3, 5, 24}[r.IntN(5)] {
			x.times = append(x.times, 1+r.Int64N(5))
		}
		within, tubes, slack := []int64{1, 3, 10, 30}[r.IntN(4)], []int{1, 3, 3, 12}[r.IntN(4)], []int64{5, 15, 40}[r.IntN(3)]
		for range r.IntN(most + 1) {
			ready := r.Int64N(within)
			x.list = append(x.list, wish(ready, max(0, ready-3)+r.Int64N(slack), drawnWay(r, len(x.times), tubes)...))
		}
		list = append(list, x)
	}
	return list
}

func drawnOrder(r *rand.Rand, count int) []int64 {
	order := counted(int64(count))
	r.Shuffle(count, func(i, j int) { order[i], order[j] = order[j], order[i] })
	return order
}

// allOrders are the orders of so many indices, the first one first.
func allOrders(count int) [][]int64 {
	all := [][]int64{nil}
	for range count {
		var longer [][]int64
		for _, order := range all {
			for k := range int64(count) {
				if !slices.Contains(order, k) {
					longer = append(longer, append(slices.Clone(order), k))
				}
			}
		}
		all = longer
	}
	return all
}

// planBySpec tries one start after the other, tick by tick.
func planBySpec(x timedWishes, order []int64) []int64 {
	starts := make([]int64, len(x.list))
	before := timedRuns{times: x.times}
	for _, k := range order {
		w := x.list[k]
		starts[k] = earliestBySpec(before, w.Way, w.Ready)[0]
		before.runs = append(before.runs, runFrom(starts[k], w.Way...))
	}
	return starts
}

// losses are the sum of delays and the number of late carriers of an order.
type losses struct{ delays, late int64 }

func lossesBySpec(x timedWishes, order []int64) losses {
	var sum losses
	for k, start := range planBySpec(x, order) {
		w := x.list[k]
		sum.delays += start - w.Ready
		if uses := usesBySpec(x.times, runFrom(start, w.Way...)); uses[len(uses)-1].tick+1 > w.Due {
			sum.late++
		}
	}
	return sum
}

// checkBest looks through the losses of all orders, the first order first, for those that no order falls below.
func checkBest(t *testing.T, x timedWishes, lossesOf func(order []int64) losses) {
	t.Helper()
	orders := allOrders(len(x.list))
	var all []losses
	for _, order := range orders {
		all = append(all, lossesOf(order))
	}
	delays, late := 0, 0
	for i := range all {
		if all[i].delays < all[delays].delays {
			delays = i
		}
		if all[i].late < all[late].late {
			late = i
		}
	}
	order, least, code := impl.BestOrder(x.times, x.list)
	check(t, x.String(), []int64{least, code}, []int64{all[delays].delays, impl.OK})
	check(t, x.String(), order, orders[delays])
	order, least, code = impl.FewestLate(x.times, x.list)
	check(t, x.String(), []int64{least, code}, []int64{all[late].late, impl.OK})
	check(t, x.String(), order, orders[late])
}

// Promise 8: no carrier begins before it is ready; nor does it meet another one, or wait a tick too long.
func TestNoCarrierBeginsBeforeItIsReady(t *testing.T) {
	r := rand.New(rand.NewPCG(1, 8))
	later := 0
	for _, x := range drawnWishes(2, 2000, 6) {
		order := drawnOrder(r, len(x.list))
		starts := planBySpec(x, order)
		checkOfOrder(t, x.times, x.list, order, starts)
		plan, _ := impl.PlanByOrder(x.times, x.list, order)
		for k, w := range x.list {
			if plan[k] < w.Ready {
				t.Errorf("%v %v: the carrier %d begins at %d", x, order, k, plan[k])
			}
			if plan[k] > w.Ready {
				later++
			}
		}
		runs, _ := impl.RunsOfPlan(x.times, x.list, order)
		_, _, _, code := impl.FirstMeeting(x.times, runs)
		check(t, x.String(), code, int64(impl.ErrNotFound))
	}
	if later < 1000 {
		t.Errorf("only %d carriers begin later", later)
	}
}

// The same with long times and late ticks, where EarliestStart tells when a carrier can begin.
func TestLongPlans(t *testing.T) {
	r := rand.New(rand.NewPCG(3, 8))
	for range 300 {
		x := timedWishes{times: []int64{1000, 1 + r.Int64N(1000), 1 + r.Int64N(30), 1}}
		for range 6 {
			x.list = append(x.list, wish(10000-r.Int64N(6000), r.Int64N(10001), drawnWay(r, 4, 12)...))
		}
		order := drawnOrder(r, 6)
		starts := make([]int64, 6)
		var before []impl.Run
		for _, k := range order {
			w := x.list[k]
			start, code := impl.EarliestStart(x.times, before, w.Way, w.Ready)
			check(t, x.String(), code, int64(impl.OK))
			starts[k], before = start, append(before, runFrom(start, w.Way...))
		}
		checkOfOrder(t, x.times, x.list, order, starts)
	}
}

// Promise 8: no order has fewer late carriers than the told one, and none has a lesser sum of delays; it is the first one of all such orders.
func TestNoOrderIsBetter(t *testing.T) {
	for _, x := range drawnWishes(4, 1000, 4) {
		checkBest(t, x, func(order []int64) losses { return lossesBySpec(x, order) })
	}
}

// The same for up to 6 wishes, whose plans are told by PlanByOrder.
func TestNoOrderOfManyIsBetter(t *testing.T) {
	for _, x := range drawnWishes(5, 60, 6) {
		checkBest(t, x, func(order []int64) losses {
			sum, one := impl.SumOfDelays(x.times, x.list, order)
			late, two := impl.LateWishes(x.times, x.list, order)
			check(t, x.String(), []int64{one, two}, []int64{impl.OK, impl.OK})
			return losses{sum, int64(len(late))}
		})
	}
}

// Each order is the only best one of some wishes: one with a longer way goes behind the others, and so does one with a later Due.
func TestEachOrderMayBeBest(t *testing.T) {
	for count := range int64(7) {
		for _, want := range allOrders(int(count)) {
			long, due := make([]impl.Wish, count), make([]impl.Wish, count)
			for place, k := range want {
				long[k] = wish(0, 0, slices.Repeat([]int64{1}, place+1)...)
				due[k] = wish(0, int64(place+1)*5, 0)
			}
			order, sum, code := impl.BestOrder(exampleTimes(), long)
			check(t, fmt.Sprint(long), []int64{sum, code}, []int64{(count - 1) * count * (count + 1) / 2, impl.OK})
			check(t, fmt.Sprint(long), order, want)
			order, late, code := impl.FewestLate(exampleTimes(), due)
			check(t, fmt.Sprint(due), []int64{late, code}, []int64{0, impl.OK})
			check(t, fmt.Sprint(due), order, want)
			order, code = impl.DueOrder(exampleTimes(), due)
			check(t, fmt.Sprint(due), code, int64(impl.OK))
			check(t, fmt.Sprint(due), order, want)
		}
	}
}

// The told orders have what is told of them, and no drawn order, nor that by Ready or by Due, has less.
func TestToldOrders(t *testing.T) {
	r := rand.New(rand.NewPCG(6, 8))
	worse, notFirst := losses{}, 0
	for _, x := range drawnWishes(7, 1000, 6) {
		best, delays, _ := impl.BestOrder(x.times, x.list)
		fewest, late, _ := impl.FewestLate(x.times, x.list)
		check(t, x.String(), []int64{lossesBySpec(x, best).delays, lossesBySpec(x, fewest).late}, []int64{delays, late})
		ready, _ := impl.ReadyOrder(x.times, x.list)
		due, _ := impl.DueOrder(x.times, x.list)
		for _, order := range [][]int64{ready, due, best, fewest, drawnOrder(r, len(x.list))} {
			other := lossesBySpec(x, order)
			if other.delays < delays || other.late < late {
				t.Errorf("%v: %v has %v, told are %v with %d and %v with %d", x, order, other, best, delays, fewest, late)
			}
			worse.delays += min(1, other.delays-delays)
			worse.late += min(1, other.late-late)
		}
		if !slices.IsSorted(best) {
			notFirst++
		}
	}
	if worse.delays < 300 || worse.late < 300 || notFirst < 100 {
		t.Errorf("too few orders are worse: %v, and %d best orders are not those of the indices", worse, notFirst)
	}
}

// Each carrier follows one with a lesser tick, or with the same one and a lesser index.
func TestReadyAndDueOrdersAscend(t *testing.T) {
	for _, x := range drawnWishes(8, 1000, 6) {
		ready, one := impl.ReadyOrder(x.times, x.list)
		due, two := impl.DueOrder(x.times, x.list)
		check(t, x.String(), []int64{one, two}, []int64{impl.OK, impl.OK})
		checkAscends(t, x, ready, func(w impl.Wish) int64 { return w.Ready })
		checkAscends(t, x, due, func(w impl.Wish) int64 { return w.Due })
	}
}

func checkAscends(t *testing.T, x timedWishes, order []int64, tickOf func(impl.Wish) int64) {
	t.Helper()
	_, code := impl.PlanByOrder(x.times, x.list, order)
	check(t, fmt.Sprint(x, order), code, int64(impl.OK))
	for place := 1; place < len(order); place++ {
		a, b := order[place-1], order[place]
		before, after := tickOf(x.list[a]), tickOf(x.list[b])
		check(t, fmt.Sprint(x, order), before < after || before == after && a < b, true)
	}
}

// dispatchResults calls every function of chapter 8.
func dispatchResults(x timedWishes, order []int64) []any {
	all := []any{impl.ValidWishes(x.times, x.list)}
	calls := dispatchCalls(x.times, x.list, order)
	for _, name := range allDispatchCalls {
		all = append(all, calls[name]...)
	}
	return all
}

// Promise 1 for chapter 8.
func TestDispatchKeepsArguments(t *testing.T) {
	r := rand.New(rand.NewPCG(9, 8))
	list := drawnWishes(10, 300, 6)
	for _, wishes := range slices.Concat(cornerWishes(), invalidWishes()) {
		if len(wishes) < 100 {
			list = append(list, timedWishes{exampleTimes(), wishes})
		}
	}
	for _, times := range invalidTimes() {
		list = append(list, timedWishes{times, nil}, timedWishes{times, sameWishes(2, 0, 0, 0)})
	}
	for _, x := range list {
		checkDispatchKept(t, x, drawnOrder(r, len(x.list)))
		wrong := wrongOrders(len(x.list))
		checkDispatchKept(t, x, wrong[r.IntN(len(wrong))])
	}
}

// guardedWishes guards the list and the way of each wish in it.
func guardedWishes(list []impl.Wish) ([]impl.Wish, func() bool) {
	return guardedDeeply(list, wish(7, 7, 7), func(w impl.Wish) (impl.Wish, func() bool) {
		way, changed := guarded(w.Way, 77)
		return wish(w.Ready, w.Due, way...), changed
	})
}

func checkDispatchKept(t *testing.T, x timedWishes, order []int64) {
	t.Helper()
	name := brief(x, order)
	times, timesChanged := guarded(x.times, 77)
	list, listChanged := guardedWishes(x.list)
	order, orderChanged := guarded(order, 77)
	checkResultsKept(t, name, func() []any { return dispatchResults(timedWishes{times, list}, order) }, timesChanged, listChanged, orderChanged)
}

// One list that is given as times, as order and as all ways is returned by no function, and no two runs share it.
func TestSharedWaysOfWishesAreKept(t *testing.T) {
	shared := []int64{1, 2, 0}
	x := timedWishes{times: []int64{3, 1, 4}}
	for ready := range int64(3) {
		x.list = append(x.list, impl.Wish{Way: shared, Ready: ready, Due: 9})
	}
	want := dispatchResults(x, shared)
	runs, code := impl.RunsOfPlan(x.times, x.list, shared)
	check(t, "code", code, int64(impl.OK))
	var ways [][]int64
	for _, run := range runs {
		ways = append(ways, run.Way)
	}
	check(t, "ways", ways, [][]int64{shared, shared, shared})
	checkApart(t, "RunsOfPlan", ways)
	spoil(dispatchResults(x, shared))
	check(t, "shared", shared, []int64{1, 2, 0})
	check(t, "results", dispatchResults(x, shared), want)
}

func TestDispatchLeavesNoGoroutine(t *testing.T) {
	r := rand.New(rand.NewPCG(11, 8))
	checkNoGoroutineIsLeft(t, func() {
		for _, x := range drawnWishes(12, 100, 6) {
			dispatchResults(x, drawnOrder(r, len(x.list)))
			dispatchResults(x, []int64{0, 0})
		}
	})
}

func TestDispatchAtTheSameTime(t *testing.T) {
	r := rand.New(rand.NewPCG(13, 8))
	for _, x := range drawnWishes(14, 50, 6) {
		order := drawnOrder(r, len(x.list))
		checkAtTheSameTime(t, x.String(), func() []any { return dispatchResults(x, order) })
	}
}
