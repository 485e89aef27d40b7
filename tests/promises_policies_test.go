package tests

import (
	"fmt"
	"math/rand/v2"
	"slices"
	"testing"

	"loop.example/g01046/impl"
)

// drawnTravels have so many carriers at most, and ways of so many halls at most; there are few halls, which mostly can hold one carrier only, so that many must wait.
func drawnTravels(seed uint64, count, carriers, stays int) []travels {
	r := rand.New(rand.NewPCG(seed, 12))
	var list []travels
	for range count {
		x := travels{halls: make([]int64, 1+r.IntN([]int{2, 3, 4, 6}[r.IntN(4)]))}
		most := 1 + r.Int64N(3)
		for hall := range x.halls {
			x.halls[hall] = 1 + r.Int64N(1+r.Int64N(most))
		}
		for range max(r.IntN(carriers+1), r.IntN(carriers+1)) {
			x.ways = append(x.ways, drawnHallWay(r, len(x.halls), 1+max(r.IntN(stays), r.IntN(stays))))
		}
		list = append(list, x)
	}
	return list
}

// drawnHallWay is one hall where there is only one.
func drawnHallWay(r *rand.Rand, halls, stays int) []int64 {
	way := []int64{r.Int64N(int64(halls))}
	for halls > 1 && len(way) < stays {
		way = append(way, (way[len(way)-1]+1+r.Int64N(int64(halls)-1))%int64(halls))
	}
	return way
}

// smallTravels are all those of two carriers through two halls by ways of up to three halls, and of three carriers through three halls by ways of up to two halls.
func smallTravels() []travels {
	var list []travels
	for _, halls := range []string{"11", "12", "21", "22"} {
		two := hallWays(2, 3)
		for _, one := range two {
			for _, other := range two {
				list = append(list, travels{digits(halls), [][]int64{one, other}})
			}
		}
	}
	three := hallWays(3, 2)
	for order := range daysOf(3, int64(len(three))) {
		list = append(list, travels{digits("111"), [][]int64{three[order[0]], three[order[1]], three[order[2]]}})
	}
	return list
}

// hallWays are all ways of at most so many halls.
func hallWays(halls int64, most int) [][]int64 {
	var ways [][]int64
	for length := 1; length <= most; length++ {
		for way := range daysOf(length, halls) {
			if len(slices.Compact(slices.Clone(way))) == length {
				ways = append(ways, way)
			}
		}
	}
	return ways
}

// hallAt is the hall at a place of the carrier k, and -1 outside.
func (x travels) hallAt(k int, place int64) int64 {
	if place < 1 || place > int64(len(x.ways[k])) {
		return -1
	}
	return x.ways[k][place-1]
}

// crowd is how many carriers are in a hall.
func (x travels) crowd(places []int64, hall int64) int64 {
	count := int64(0)
	for k, place := range places {
		if x.hallAt(k, place) == hall {
			count++
		}
	}
	return count
}

func (x travels) isState(places []int64) bool {
	if len(places) != len(x.ways) {
		return false
	}
	for k, place := range places {
		if place < 0 || place > int64(len(x.ways[k]))+1 {
			return false
		}
	}
	for hall, most := range x.halls {
		if x.crowd(places, int64(hall)) > most {
			return false
		}
	}
	return true
}

func (x travels) areDone(places []int64) bool {
	for k, way := range x.ways {
		if places[k] != int64(len(way))+1 {
			return false
		}
	}
	return true
}

// canGoOn reports whether the carrier k can go on, if so many may be in halls at once.
func (x travels) canGoOn(places []int64, k int, most int64) bool {
	if places[k] > int64(len(x.ways[k])) {
		return false
	}
	if places[k] == 0 && int64(len(x.ways))-x.crowd(places, -1) >= most {
		return false
	}
	next := x.hallAt(k, places[k]+1)
	return next == -1 || x.crowd(places, next) < x.halls[next]
}

// goers are all carriers that can go on.
func (x travels) goers(places []int64, most int64) []int64 {
	var list []int64
	for k := range x.ways {
		if x.canGoOn(places, k, most) {
			list = append(list, int64(k))
		}
	}
	return list
}

// noLimit is more carriers than there can be.
const noLimit = 99

func (x travels) isDeadlock(places []int64, most int64) bool {
	return !x.areDone(places) && len(x.goers(places, most)) == 0
}

func goneOn(places []int64, moves ...int64) []int64 {
	next := slices.Clone(places)
	for _, k := range moves {
		next[k]++
	}
	return next
}

// start has all carriers in front of their ways, and end all behind them.
func (x travels) start() []int64 { return make([]int64, len(x.ways)) }

func (x travels) end() []int64 {
	var places []int64
	for _, way := range x.ways {
		places = append(places, int64(len(way))+1)
	}
	return places
}

// allStates are all states, also those that are not reached.
func (x travels) allStates() [][]int64 {
	var states [][]int64
	for places := range daysOf(len(x.ways), 7) {
		if x.isState(places) {
			states = append(states, places)
		}
	}
	return states
}

// reachedBySpec are the states that are reached if so many may be in halls at once.
func (x travels) reachedBySpec(most int64) map[string][]int64 {
	reached := map[string][]int64{}
	var visit func(places []int64)
	visit = func(places []int64) {
		name := fmt.Sprint(places)
		if _, is := reached[name]; is {
			return
		}
		reached[name] = places
		for _, k := range x.goers(places, most) {
			visit(goneOn(places, k))
		}
	}
	visit(x.start())
	return reached
}

// deadlocksBySpec counts the deadlocks that are reached.
func (x travels) deadlocksBySpec(most int64) int {
	count := 0
	for _, places := range x.reachedBySpec(most) {
		if x.isDeadlock(places, most) {
			count++
		}
	}
	return count
}

// listBySpec is the first list of just so many moves that leads from places to a deadlock.
func (x travels) listBySpec(places []int64, length int) ([]int64, bool) {
	if length == 0 {
		return nil, x.isDeadlock(places, noLimit)
	}
	for _, k := range x.goers(places, noLimit) {
		if list, found := x.listBySpec(goneOn(places, k), length-1); found {
			return append([]int64{k}, list...), true
		}
	}
	return nil, false
}

// firstListBySpec tries all lists of moves, the shortest ones first.
func (x travels) firstListBySpec() ([]int64, int64) {
	for length := range int(sum(x.end())) + 1 {
		if list, found := x.listBySpec(x.start(), length); found {
			return list, impl.OK
		}
	}
	return nil, impl.ErrNotFound
}

func sum(list []int64) int64 {
	total := int64(0)
	for _, n := range list {
		total += n
	}
	return total
}

// future knows of each state how many moves lead to a deadlock at least, and whether moves lead to where all carriers are done.
type future struct {
	travels
	far  map[string]int
	safe map[string]bool
}

func newFuture(x travels) future {
	return future{x, map[string]int{}, map[string]bool{}}
}

// never is farther than any deadlock.
const never = 99

// look goes through all that can come after places.
func (f future) look(places []int64) (int, bool) {
	name := fmt.Sprint(places)
	if far, known := f.far[name]; known {
		return far, f.safe[name]
	}
	far, safe := never, f.areDone(places)
	if f.isDeadlock(places, noLimit) {
		far = 0
	}
	for _, k := range f.goers(places, noLimit) {
		after, is := f.look(goneOn(places, k))
		far, safe = min(far, after+1), safe || is
	}
	f.far[name], f.safe[name] = min(far, never), safe
	return f.far[name], safe
}

func (f future) isSafe(places []int64) bool {
	_, safe := f.look(places)
	return safe
}

// safeMoves are those of all moves that lead to a safe state.
func (f future) safeMoves(places []int64) []int64 {
	return slices.DeleteFunc(f.goers(places, noLimit), func(k int64) bool { return !f.isSafe(goneOn(places, k)) })
}

// deadlock takes the first move, again and again, by which a deadlock is no farther than it must be.
func (f future) deadlock() ([]int64, int64) {
	places := f.start()
	far, _ := f.look(places)
	if far == never {
		return nil, impl.ErrNotFound
	}
	var moves []int64
	for ; far > 0; far-- {
		for _, k := range f.goers(places, noLimit) {
			if after, _ := f.look(goneOn(places, k)); after == far-1 {
				moves, places = append(moves, k), goneOn(places, k)
				break
			}
		}
	}
	return moves, impl.OK
}

// mostBySpec tries all numbers, the greatest one first.
func (x travels) mostBySpec() int64 {
	most := int64(len(x.ways))
	for most > 0 && x.deadlocksBySpec(most) > 0 {
		most--
	}
	return most
}

// checkState compares all functions of one state, and follows each of its moves; it returns how many moves there are, and how many are safe.
func checkState(t *testing.T, f future, places []int64) (int, int) {
	t.Helper()
	name := fmt.Sprint(f.travels, places)
	check(t, name, impl.ValidPlaces(f.halls, f.ways, places), true)
	moves, one := impl.NextMoves(f.halls, f.ways, places)
	check(t, name+" moves", moves, f.goers(places, noLimit))
	safe, two := impl.IsSafe(f.halls, f.ways, places)
	check(t, name+" safe", safe, f.isSafe(places))
	safeMoves, three := impl.SafeMoves(f.halls, f.ways, places)
	check(t, name+" safe moves", safeMoves, f.safeMoves(places))
	check(t, name, []int64{one, two, three}, []int64{impl.OK, impl.OK, impl.OK})
	check(t, name+" safe by its moves", safe, len(safeMoves) > 0 || f.areDone(places))
	for _, k := range moves {
		next, code := impl.IsSafe(f.halls, f.ways, goneOn(places, k))
		check(t, fmt.Sprint(name, " move ", k), []any{next, code}, []any{slices.Contains(safeMoves, k), int64(impl.OK)})
	}
	return len(moves), len(safeMoves)
}

// Promise 12: safe moves lead to safe states, and no other moves do.
func TestSafeMovesLeadToSafeStates(t *testing.T) {
	counts := map[[2]int]int{}
	for _, x := range slices.Concat(smallTravels(), drawnTravels(1, 300, 3, 3), drawnTravels(2, 60, 4, 2), []travels{travel("1111", "01 10 2 3"), travel("1111", "01 10 23 32")}) {
		f := newFuture(x)
		for _, places := range x.allStates() {
			moves, safe := checkState(t, f, places)
			counts[[2]int{moves, safe}]++
		}
	}
	for _, few := range [][2]int{{0, 0}, {1, 0}, {1, 1}, {2, 0}, {2, 1}, {2, 2}, {3, 1}, {3, 2}, {3, 3}, {4, 4}} {
		if counts[few] < 5 {
			t.Errorf("too few of %v: %v", few, counts)
		}
	}
}

func TestSafeMovesOfMany(t *testing.T) {
	r := rand.New(rand.NewPCG(3, 12))
	for _, x := range append(cornerTravels(), drawnTravels(4, 150, 4, 5)...) {
		f := newFuture(x)
		states := x.allStates()
		for range 5 {
			checkState(t, f, states[r.IntN(len(states))])
		}
		checkState(t, f, x.start())
		checkState(t, f, x.end())
	}
}

// deadlocksByMoves counts the deadlocks that are reached by the moves that the program tells, without those that would be too many inside.
func deadlocksByMoves(t *testing.T, x travels, most int64) int {
	t.Helper()
	deadlocks := 0
	states, seen := [][]int64{x.start()}, map[string]bool{}
	for len(states) > 0 {
		places := states[0]
		states = states[1:]
		if seen[fmt.Sprint(places)] {
			continue
		}
		seen[fmt.Sprint(places)] = true
		moves, code := impl.NextMoves(x.halls, x.ways, places)
		check(t, fmt.Sprint(x, places), code, int64(impl.OK))
		inside := int64(len(places)) - x.crowd(places, -1)
		moves = slices.DeleteFunc(moves, func(k int64) bool { return places[k] == 0 && inside >= most })
		if len(moves) == 0 && !x.areDone(places) {
			deadlocks++
		}
		for _, k := range moves {
			states = append(states, goneOn(places, k))
		}
	}
	return deadlocks
}

// checkMost tries the told number, all less ones, and all greater ones.
func checkMost(t *testing.T, x travels) int64 {
	t.Helper()
	most, code := impl.MostAtOnce(x.halls, x.ways)
	check(t, fmt.Sprint(x), []int64{most, code}, []int64{x.mostBySpec(), impl.OK})
	for number := min(1, most); number <= int64(len(x.ways)); number++ {
		check(t, fmt.Sprint(x, " with ", number, " inside"), deadlocksByMoves(t, x, number) > 0, number > most)
	}
	return most
}

// Promise 12: as many carriers as are told may be inside at once, and no more.
func TestAsManyAsAreToldMayBeInside(t *testing.T) {
	counts := map[[2]int64]int{}
	for _, x := range slices.Concat(cornerTravels(), smallTravels(), drawnTravels(5, 400, 4, 3), drawnTravels(6, 20, 4, 5)) {
		counts[[2]int64{int64(len(x.ways)), checkMost(t, x)}]++
	}
	for _, few := range [][2]int64{{0, 0}, {1, 1}, {2, 1}, {2, 2}, {3, 1}, {3, 2}, {3, 3}, {4, 1}, {4, 2}, {4, 3}, {4, 4}} {
		if counts[few] < 4 {
			t.Errorf("too few of %v: %v", few, counts)
		}
	}
}

// checkDeadlock follows the told moves, and returns how many there are.
func checkDeadlock(t *testing.T, x travels, want []int64, wantCode int64) int {
	t.Helper()
	name := fmt.Sprint(x)
	moves, code := impl.FirstDeadlock(x.halls, x.ways)
	check(t, name+" deadlock", code, wantCode)
	check(t, name+" deadlock", moves, want)
	free, one := impl.IsFree(x.halls, x.ways)
	check(t, name+" free", []any{free, one}, []any{code == impl.ErrNotFound, int64(impl.OK)})
	places := x.start()
	for _, k := range moves {
		can, one := impl.NextMoves(x.halls, x.ways, places)
		check(t, name, []any{slices.Contains(can, k), one}, []any{true, int64(impl.OK)})
		places = goneOn(places, k)
	}
	if code == impl.OK {
		check(t, name+" last", x.isDeadlock(places, noLimit), true)
		safe, one := impl.IsSafe(x.halls, x.ways, places)
		check(t, name+" last", []any{safe, one}, []any{false, int64(impl.OK)})
	}
	return len(moves)
}

func TestFirstDeadlockOfAllLists(t *testing.T) {
	lengths := map[int]int{}
	for _, x := range slices.Concat(smallTravels(), drawnTravels(7, 600, 3, 3), drawnTravels(8, 150, 4, 2)) {
		want, code := x.firstListBySpec()
		moves, far := newFuture(x).deadlock()
		check(t, fmt.Sprint(x, " by steps"), moves, want)
		check(t, fmt.Sprint(x, " by steps"), far, code)
		lengths[checkDeadlock(t, x, want, code)]++
	}
	for _, few := range []int{0, 2, 3, 4, 5} {
		if lengths[few] < 5 {
			t.Errorf("too few of the length %d: %v", few, lengths)
		}
	}
}

func TestFirstDeadlockOfMany(t *testing.T) {
	found := 0
	for _, x := range append(cornerTravels(), drawnTravels(9, 200, 4, 5)...) {
		want, code := newFuture(x).deadlock()
		if checkDeadlock(t, x, want, code); code == impl.OK {
			found++
		}
	}
	if found < 50 {
		t.Errorf("only %d deadlocks", found)
	}
}

func TestReachedStatesOneByOne(t *testing.T) {
	unreached := 0
	for _, x := range slices.Concat(cornerTravels(), smallTravels(), drawnTravels(10, 400, 4, 3), drawnTravels(11, 60, 4, 5)) {
		want := int64(len(x.reachedBySpec(noLimit)))
		many, code := impl.CountReached(x.halls, x.ways)
		check(t, fmt.Sprint(x), []int64{many, code}, []int64{want, impl.OK})
		if want < int64(len(x.allStates())) {
			unreached++
		}
	}
	if unreached < 100 {
		t.Errorf("only in %d cases not all states are reached", unreached)
	}
}

func TestSafeRunsMoveByMove(t *testing.T) {
	for _, x := range slices.Concat(cornerTravels(), smallTravels(), drawnTravels(12, 100, 4, 3), drawnTravels(13, 10, 4, 5)) {
		name := fmt.Sprint(x)
		run, code := impl.SafeRun(x.halls, x.ways)
		check(t, name, []any{code, int64(len(run))}, []any{int64(impl.OK), sum(x.end())})
		places := x.start()
		for _, k := range run {
			moves, one := impl.SafeMoves(x.halls, x.ways, places)
			check(t, name, []any{moves[:min(1, len(moves))], one}, []any{[]int64{k}, int64(impl.OK)})
			places = goneOn(places, k)
		}
		check(t, name, places, x.end())
	}
}

func TestPlacesOneByOne(t *testing.T) {
	states, others := 0, 0
	for _, x := range slices.Concat(smallTravels()[:200], drawnTravels(14, 100, 3, 5)) {
		for shifted := range daysOf(len(x.ways), 9) {
			var places []int64
			for _, place := range shifted {
				places = append(places, place-1)
			}
			want := x.isState(places)
			check(t, fmt.Sprint(x, places), impl.ValidPlaces(x.halls, x.ways, places), want)
			if want {
				states++
			} else {
				others++
			}
		}
	}
	if states < 1000 || others < 1000 {
		t.Errorf("%d states, and %d others", states, others)
	}
}

// policyResults calls every function of chapter 12.
func policyResults(x travels, places []int64) []any {
	all := []any{impl.ValidTravels(x.halls, x.ways), impl.ValidPlaces(x.halls, x.ways, places)}
	states, others := stateCalls(x, places), travelCalls(x)
	for _, name := range allStateCalls {
		all = append(all, states[name]...)
	}
	for _, name := range allTravelCalls {
		all = append(all, others[name]...)
	}
	return all
}

// drawnPlaces are mostly a state.
func drawnPlaces(r *rand.Rand, x travels) []int64 {
	places := make([]int64, len(x.ways))
	for k, way := range x.ways {
		places[k] = r.Int64N(int64(len(way)) + 2)
	}
	switch r.IntN(8) {
	case 0:
		return append(places, 0)
	case 1:
		return places[:max(0, len(places)-1)]
	case 2:
		if len(places) > 0 {
			places[r.IntN(len(places))] = hostileNumbers[r.IntN(len(hostileNumbers))]
		}
	}
	return places
}

// Promise 1 for chapter 12.
func TestPoliciesKeepArguments(t *testing.T) {
	r := rand.New(rand.NewPCG(15, 12))
	for _, x := range slices.Concat(cornerTravels(), invalidTravels(), smallTravels()[:200], drawnTravels(16, 100, 4, 3)) {
		checkTravelsKept(t, x, x.start())
		checkTravelsKept(t, x, drawnPlaces(r, x))
	}
	for _, places := range wrongPlaces(travel("11", "01 10")) {
		checkTravelsKept(t, travel("11", "01 10"), places)
	}
}

func checkTravelsKept(t *testing.T, x travels, places []int64) {
	t.Helper()
	halls, hallsChanged := guarded(x.halls, 77)
	ways, waysChanged := guardedDeeply(x.ways, digits("777"), func(way []int64) ([]int64, func() bool) { return guarded(way, 77) })
	given, placesChanged := guarded(places, 77)
	checkResultsKept(t, brief(x, places), func() []any { return policyResults(travels{halls, ways}, given) }, hallsChanged, waysChanged, placesChanged)
}

// One list that is given as halls, as a way and as places is returned by no function.
func TestSharedHallsAreKept(t *testing.T) {
	shared := append(make([]int64, 0, 6), 1, 2)
	x := travels{append(shared, 1), [][]int64{shared, shared}}
	want := policyResults(x, shared)
	spoil(policyResults(x, shared))
	check(t, "shared", shared[:6], []int64{1, 2, 1, 0, 0, 0})
	check(t, "results", policyResults(x, shared), want)
	moves, code := impl.NextMoves(x.halls, x.ways, shared)
	check(t, "moves", []any{append(moves, 9), code}, []any{[]int64{1, 9}, int64(impl.OK)})
	check(t, "shared", shared[:6], []int64{1, 2, 1, 0, 0, 0})
}

func TestPoliciesLeaveNoGoroutine(t *testing.T) {
	r := rand.New(rand.NewPCG(17, 12))
	checkNoGoroutineIsLeft(t, func() {
		for _, x := range append(cornerTravels(), drawnTravels(18, 100, 4, 3)...) {
			policyResults(x, drawnPlaces(r, x))
		}
	})
}

func TestPoliciesAtTheSameTime(t *testing.T) {
	r := rand.New(rand.NewPCG(19, 12))
	for _, x := range drawnTravels(20, 60, 4, 4) {
		places := drawnPlaces(r, x)
		checkAtTheSameTime(t, fmt.Sprint(x, places), func() []any { return policyResults(x, places) })
	}
}
