package tests

import (
	"fmt"
	"math/rand/v2"
	"slices"
	"testing"

	"loop.example/g01046/impl"
)

// drawnHalls have so many rooms and guests at most; more of the guests are in rooms than outside, so that many must wait.
func drawnHalls(seed uint64, count, most int) []hall {
	r := rand.New(rand.NewPCG(seed, 10))
	var list []hall
	for range count {
		x := hall{rooms: make([]int64, 1+r.IntN([]int{2, 3, 5, 8}[r.IntN(4)]))}
		places := []int64{1, 1, 2, 4}[r.IntN(4)]
		for room := range x.rooms {
			x.rooms[room] = 1 + r.Int64N(places)
		}
		free := slices.Clone(x.rooms)
		for range max(r.IntN(most+1), r.IntN(most+1)) {
			at := r.Int64N(int64(len(free)))
			if free[at] == 0 && r.IntN(4) > 0 {
				at = int64(slices.IndexFunc(free, func(places int64) bool { return places > 0 }))
			}
			if at < 0 || free[at] == 0 || r.IntN(8) == 0 {
				at = -1
			} else {
				free[at]--
			}
			x.list = append(x.list, guest(at, drawnWanted(r, at, int64(len(free)))))
		}
		list = append(list, x)
	}
	return list
}

// drawnWanted is seldom the room in which the guest is, and seldom outside.
func drawnWanted(r *rand.Rand, at, rooms int64) int64 {
	switch r.IntN(12) {
	case 0:
		return at
	case 1:
		return -1
	}
	return r.Int64N(rooms)
}

// smallHalls are all those with one or two rooms of one or two places, and so many guests.
func smallHalls(count int) []hall {
	var list []hall
	for _, rooms := range [][]int64{{1}, {2}, {1, 1}, {1, 2}, {2, 1}, {2, 2}} {
		lists := [][]impl.Guest{nil}
		for range count {
			var longer [][]impl.Guest
			for _, some := range lists {
				for at := int64(-1); at < int64(len(rooms)); at++ {
					for wants := int64(-1); wants < int64(len(rooms)); wants++ {
						longer = append(longer, append(slices.Clone(some), guest(at, wants)))
					}
				}
			}
			lists = longer
		}
		for _, some := range lists {
			if impl.ValidRooms(rooms, some) {
				list = append(list, hall{rooms, some})
			}
		}
	}
	return list
}

// canGoBySpec counts the guests in the room that the guest wants.
func canGoBySpec(x hall, k int) bool {
	g := x.list[k]
	if g.Wants == g.At || g.Wants == -1 {
		return g.Wants != g.At
	}
	places := x.rooms[g.Wants]
	for _, other := range x.list {
		if other.At == g.Wants {
			places--
		}
	}
	return places > 0
}

func goBySpec(x hall, k int) hall {
	list := slices.Clone(x.list)
	list[k].At = list[k].Wants
	return hall{x.rooms, list}
}

// putOutBySpec puts some guests outside.
func putOutBySpec(x hall, out []int64) hall {
	list := slices.Clone(x.list)
	for _, k := range out {
		list[k] = guest(-1, -1)
	}
	return hall{x.rooms, list}
}

func restlessBySpec(x hall) []int64 {
	var some []int64
	for k, g := range x.list {
		if g.At != g.Wants {
			some = append(some, int64(k))
		}
	}
	return some
}

// mostGoneBySpec tries each guest that can go as the next one, and remembers nothing.
func mostGoneBySpec(x hall) int64 {
	most := int64(0)
	for k := range x.list {
		if canGoBySpec(x, k) {
			most = max(most, 1+mostGoneBySpec(goBySpec(x, k)))
		}
	}
	return most
}

// goInOrder reports whether each one can go when it is its turn.
func goInOrder(x hall, order []int64) bool {
	for _, k := range order {
		if !canGoBySpec(x, int(k)) {
			return false
		}
		x = goBySpec(x, int(k))
	}
	return true
}

// orderBySpec is the first one, of all orders, in which all can go.
func orderBySpec(x hall) ([]int64, int64) {
	some := restlessBySpec(x)
	for _, places := range allOrders(len(some)) {
		var order []int64
		for _, i := range places {
			order = append(order, some[i])
		}
		if goInOrder(x, order) {
			return order, impl.OK
		}
	}
	return nil, impl.ErrStuck
}

// setsOf are all sets of so many of the indices from one on, in their order.
func setsOf(from, count, size int) [][]int64 {
	if size == 0 {
		return [][]int64{nil}
	}
	var sets [][]int64
	for k := from; k < count; k++ {
		for _, rest := range setsOf(k+1, count, size-1) {
			sets = append(sets, append([]int64{int64(k)}, rest...))
		}
	}
	return sets
}

// outBySpec is the first one of the least sets without which all others can go.
func outBySpec(x hall) []int64 {
	for size := range x.list {
		for _, out := range setsOf(0, len(x.list), size) {
			rest := putOutBySpec(x, out)
			if mostGoneBySpec(rest) == int64(len(restlessBySpec(rest))) {
				return out
			}
		}
	}
	return counted(int64(len(x.list)))
}

// followerBySpec is the first guest that waits in the room that the guest k wants, and -1 if there is none or k does not wait.
func followerBySpec(x hall, k int) int {
	waits := func(k int) bool { return x.list[k].At != x.list[k].Wants && !canGoBySpec(x, k) }
	for other := range x.list {
		if waits(k) && waits(other) && x.list[other].At == x.list[k].Wants {
			return other
		}
	}
	return -1
}

// circleBySpec follows each guest, as often as there are guests, until it comes back.
func circleBySpec(x hall) ([]int64, int64) {
	for first := range x.list {
		circle := []int64{int64(first)}
		k := followerBySpec(x, first)
		for range x.list {
			if k == first {
				return circle, impl.OK
			}
			if k >= 0 {
				circle = append(circle, int64(k))
				k = followerBySpec(x, k)
			}
		}
	}
	return nil, impl.ErrNotFound
}

// Promise 10: guests can go just where there is a place.
func TestGuestsGoJustWhereThereIsAPlace(t *testing.T) {
	counts := map[int64]int{}
	for _, x := range slices.Concat(cornerHalls(), smallHalls(2), smallHalls(3), drawnHalls(1, 3000, 8)) {
		var free, can []int64
		for room, places := range x.rooms {
			free = append(free, places-int64(len(guestsIn(x, int64(room)))))
		}
		for k := range x.list {
			if canGoBySpec(x, k) {
				can = append(can, int64(k))
			}
			counts[checkGoes(t, x, k)]++
		}
		gotFree, one := impl.FreePlaces(x.rooms, x.list)
		gotCan, two := impl.CanGo(x.rooms, x.list)
		stuck, three := impl.IsStuck(x.rooms, x.list)
		check(t, fmt.Sprint(x), []int64{one, two, three}, []int64{impl.OK, impl.OK, impl.OK})
		check(t, fmt.Sprint(x, " free"), gotFree, free)
		check(t, fmt.Sprint(x, " can"), gotCan, can)
		check(t, fmt.Sprint(x, " stuck"), stuck, len(can) == 0 && len(restlessBySpec(x)) > 0)
	}
	if counts[impl.OK] < 1000 || counts[impl.ErrFull] < 1000 || counts[impl.ErrState] < 1000 {
		t.Errorf("too few of a kind: %v", counts)
	}
}

func guestsIn(x hall, room int64) []impl.Guest {
	return slices.DeleteFunc(slices.Clone(x.list), func(g impl.Guest) bool { return g.At != room })
}

// checkGoes lets a guest go, and returns the code: just this guest is elsewhere afterwards, and all is valid.
func checkGoes(t *testing.T, x hall, k int) int64 {
	t.Helper()
	next, code := impl.GoOne(x.rooms, x.list, int64(k))
	name := fmt.Sprint(x, " guest ", k)
	switch {
	case x.list[k].At == x.list[k].Wants:
		check(t, name, []any{len(next), code}, []any{0, int64(impl.ErrState)})
	case !canGoBySpec(x, k):
		check(t, name, []any{len(next), code}, []any{0, int64(impl.ErrFull)})
	default:
		check(t, name, []any{next, code}, []any{goBySpec(x, k).list, int64(impl.OK)})
		check(t, name, impl.ValidRooms(x.rooms, next), true)
	}
	return code
}

// checkOrder compares with all orders, and lets the guests go in the told one.
func checkOrder(t *testing.T, x hall) int64 {
	t.Helper()
	want, wantCode := orderBySpec(x)
	order, code := impl.GoOrder(x.rooms, x.list)
	check(t, fmt.Sprint(x), code, wantCode)
	check(t, fmt.Sprint(x), order, want)
	list := x.list
	for _, k := range order {
		next, one := impl.GoOne(x.rooms, list, k)
		check(t, fmt.Sprint(x, order), one, int64(impl.OK))
		list = next
	}
	if code == impl.OK {
		check(t, fmt.Sprint(x, order), restlessBySpec(hall{x.rooms, list}), []int64{})
	}
	return code
}

func TestFirstOfAllOrders(t *testing.T) {
	counts := map[int64]int{}
	for _, x := range slices.Concat(smallHalls(1), smallHalls(2), smallHalls(3), drawnHalls(2, 4000, 6)) {
		counts[checkOrder(t, x)]++
	}
	if counts[impl.OK] < 1000 || counts[impl.ErrStuck] < 1000 {
		t.Errorf("too few of a kind: %v", counts)
	}
}

func TestFirstOfAllOrdersOfMany(t *testing.T) {
	for _, x := range append(cornerHalls(), drawnHalls(3, 100, 8)...) {
		checkOrder(t, x)
	}
}

// Promise 10: without the told ones all others can go. No smaller set, and none before it, is enough.
func TestWithoutTheToldOnesAllOthersCanGo(t *testing.T) {
	sizes := map[int]int{}
	for _, x := range slices.Concat(smallHalls(1), smallHalls(2), smallHalls(3), drawnHalls(4, 3000, 6)) {
		sizes[checkOut(t, x)]++
	}
	if sizes[0] < 500 || sizes[1] < 500 || sizes[2] < 100 || sizes[3] < 20 {
		t.Errorf("too few of a size: %v", sizes)
	}
}

func TestWithoutTheToldOnesOfMany(t *testing.T) {
	for _, x := range append(cornerHalls(), drawnHalls(5, 60, 8)...) {
		checkOut(t, x)
	}
}

// checkOut returns how many guests must be put outside.
func checkOut(t *testing.T, x hall) int {
	t.Helper()
	out, code := impl.FewestOut(x.rooms, x.list)
	check(t, fmt.Sprint(x), code, int64(impl.OK))
	check(t, fmt.Sprint(x), out, outBySpec(x))
	rest := putOutBySpec(x, out)
	order, code := impl.GoOrder(rest.rooms, rest.list)
	check(t, fmt.Sprint(x, out), code, int64(impl.OK))
	check(t, fmt.Sprint(x, out), []any{goInOrder(rest, order), len(order)}, []any{true, len(restlessBySpec(rest))})
	return len(out)
}

// No order lets more guests go; it lets all go just if there is an order of all.
func TestMostGuestsOfAllOrders(t *testing.T) {
	some := 0
	for _, x := range slices.Concat(smallHalls(2), smallHalls(3), cornerHalls(), drawnHalls(6, 3000, 6), drawnHalls(7, 200, 8)) {
		most, code := impl.MostGone(x.rooms, x.list)
		check(t, fmt.Sprint(x), []int64{most, code}, []int64{mostGoneBySpec(x), impl.OK})
		all := int64(len(restlessBySpec(x)))
		_, code = impl.GoOrder(x.rooms, x.list)
		check(t, fmt.Sprint(x), code == impl.OK, most == all)
		if 0 < most && most < all {
			some++
		}
	}
	if some < 500 {
		t.Errorf("only in %d halls some, but not all, can go", some)
	}
}

func TestCirclesGuestByGuest(t *testing.T) {
	sizes := map[int]int{}
	for _, x := range slices.Concat(smallHalls(1), smallHalls(2), smallHalls(3), cornerHalls(), drawnHalls(8, 20000, 8)) {
		want, wantCode := circleBySpec(x)
		circle, code := impl.WaitCircle(x.rooms, x.list)
		check(t, fmt.Sprint(x), code, wantCode)
		check(t, fmt.Sprint(x), circle, want)
		sizes[len(circle)]++
	}
	if sizes[0] < 1000 || sizes[2] < 500 || sizes[3] < 100 || sizes[4] < 10 {
		t.Errorf("too few of a size: %v", sizes)
	}
}

// The same guests behind one another in a circle of so many rooms, which has no free place; a place more and all can go.
func TestCirclesOfAllSizes(t *testing.T) {
	for size := 2; size <= 8; size++ {
		for _, order := range [][]int64{counted(int64(size)), reversed(size), drawnOrder(rand.New(rand.NewPCG(uint64(size), 10)), size)} {
			var list []impl.Guest
			for _, room := range order {
				list = append(list, guest(room, (room+1)%int64(size)))
			}
			x := hall{manyRooms(size, 1), list}
			want, _ := circleBySpec(x)
			circle, code := impl.WaitCircle(x.rooms, x.list)
			check(t, fmt.Sprint(x), []any{circle, len(circle), code}, []any{want, size, int64(impl.OK)})
			out, code := impl.FewestOut(x.rooms, x.list)
			check(t, fmt.Sprint(x), []any{out, code}, []any{[]int64{0}, int64(impl.OK)})
			for room := range x.rooms {
				wider := withNumber(x.rooms, room, 2)
				most, code := impl.MostGone(wider, x.list)
				check(t, fmt.Sprint(wider, x.list), []int64{most, code}, []int64{int64(size), impl.OK})
				_, code = impl.WaitCircle(wider, x.list)
				check(t, fmt.Sprint(wider, x.list), code, int64(impl.ErrNotFound))
			}
		}
	}
}

// hallResults calls every function of chapter 10.
func hallResults(x hall, k int64) []any {
	all := []any{impl.ValidRooms(x.rooms, x.list), impl.SameGuests(x.list, x.list), impl.SameGuests(x.list, nil)}
	calls := hallCalls(x, k)
	for _, name := range allHallCalls {
		all = append(all, calls[name]...)
	}
	return all
}

// Promise 1 for chapter 10.
func TestRoomsKeepArguments(t *testing.T) {
	r := rand.New(rand.NewPCG(9, 10))
	for _, x := range slices.Concat(cornerHalls(), invalidHalls(), smallHalls(2), drawnHalls(10, 1000, 8)) {
		for k := int64(-1); k <= int64(min(len(x.list), 9)); k++ {
			checkHallKept(t, x, k)
		}
		checkHallKept(t, x, hostileNumbers[r.IntN(len(hostileNumbers))])
	}
}

func checkHallKept(t *testing.T, x hall, k int64) {
	t.Helper()
	rooms, roomsChanged := guarded(x.rooms, 1)
	list, listChanged := guarded(x.list, guest(7, 77))
	given := hall{rooms, list}
	checkResultsKept(t, brief(x, k), func() []any { return hallResults(given, k) }, roomsChanged, listChanged)
}

// Several guests that go from the same list, which has unused capacity, do not disturb each other.
func TestUnusedCapacityOfGuestsIsKept(t *testing.T) {
	room := append(make([]impl.Guest, 0, 8), guests(0, -1, -1, 1, 2, 2, 1, 0)...)
	x := hall{append(make([]int64, 0, 8), 1, 2, 1), room}
	first, one := impl.GoOne(x.rooms, x.list, 0)
	second, two := impl.GoOne(x.rooms, x.list, 1)
	check(t, "codes", []int64{one, two}, []int64{impl.OK, impl.OK})
	first = append(first, guest(5, 5))
	check(t, "second", append(second, guest(6, 6)), guests(0, -1, 1, 1, 2, 2, 1, 0, 6, 6))
	check(t, "first", first, guests(-1, -1, -1, 1, 2, 2, 1, 0, 5, 5))
	check(t, "given", room[:8], append(guests(0, -1, -1, 1, 2, 2, 1, 0), make([]impl.Guest, 4)...))
	check(t, "rooms", x.rooms[:8], []int64{1, 2, 1, 0, 0, 0, 0, 0})
}

func TestRoomsAtTheSameTime(t *testing.T) {
	for _, x := range drawnHalls(11, 100, 8) {
		checkAtTheSameTime(t, fmt.Sprint(x), func() []any { return hallResults(x, 0) })
	}
}
