package tests

import (
	"fmt"
	"math"
	"slices"
	"testing"

	"loop.example/g01046/impl"
)

func guest(at, wants int64) impl.Guest { return impl.Guest{At: at, Wants: wants} }

// guests have pairs of what they are At and what they want.
func guests(pairs ...int64) []impl.Guest {
	var list []impl.Guest
	for pair := range slices.Chunk(pairs, 2) {
		list = append(list, guest(pair[0], pair[1]))
	}
	return list
}

// sameGuests are so many equal ones.
func sameGuests(count int, at, wants int64) []impl.Guest {
	return slices.Repeat(guests(at, wants), count)
}

// manyRooms have so many places each.
func manyRooms(count int, places int64) []int64 { return slices.Repeat([]int64{places}, count) }

// hall is some rooms with guests.
type hall struct {
	rooms []int64
	list  []impl.Guest
}

// cornerHalls are valid, and lie at the limits.
func cornerHalls() []hall {
	round := guests(0, 1, 1, 2, 2, 3, 3, 4, 4, 5, 5, 6, 6, 7, 7, 0)
	return []hall{
		{manyRooms(1, 1), nil}, {manyRooms(1, 4), []impl.Guest{}}, {manyRooms(8, 1), nil}, {manyRooms(8, 4), nil}, {[]int64{1, 2, 3, 4, 4, 3, 2, 1}, nil},
		{manyRooms(1, 1), guests(-1, -1)}, {manyRooms(1, 1), guests(-1, 0)}, {manyRooms(1, 1), guests(0, -1)}, {manyRooms(1, 1), guests(0, 0)}, {manyRooms(8, 1), guests(7, -1, -1, 7)}, {manyRooms(8, 1), guests(7, 7, -1, 7)},
		{manyRooms(1, 1), sameGuests(8, -1, -1)}, {manyRooms(1, 1), sameGuests(8, -1, 0)}, {manyRooms(1, 4), sameGuests(4, 0, 0)}, {manyRooms(1, 4), append(sameGuests(4, 0, -1), sameGuests(4, -1, 0)...)}, {manyRooms(2, 4), append(sameGuests(4, 0, 1), sameGuests(4, 1, 0)...)},
		{manyRooms(8, 1), round}, {manyRooms(8, 4), round}, {manyRooms(8, 1), round[:7]}, {[]int64{4, 1, 4}, guests(2, 1, 2, 1, 0, 1, 1, 0, 2, 0, 2, 2, 0, 0, 0, 2)}, {[]int64{1, 1}, guests(0, 1, 1, 0)},
		{manyRooms(3, 2), guests(0, 0, 0, 0, 1, 1, 1, 1, 2, 2, 2, 2)}, {manyRooms(3, 2), guests(2, 2, 1, 1, 0, 0, 2, 2, 1, 1, 0, 0, -1, 0, -1, 2)},
	}
}

// overfull have a guest too many in one room.
func overfull() []hall {
	return []hall{
		{manyRooms(1, 1), sameGuests(2, 0, 0)}, {manyRooms(1, 1), guests(0, -1, 0, -1)}, {manyRooms(1, 2), sameGuests(3, 0, 0)}, {manyRooms(1, 4), sameGuests(5, 0, -1)}, {manyRooms(1, 4), sameGuests(8, 0, -1)}, {manyRooms(2, 1), guests(1, 0, 0, 0, 1, -1)}, {[]int64{4, 1}, guests(1, 0, 1, 0)},
		{[]int64{1, 4}, guests(0, 1, 0, 1)}, {manyRooms(8, 1), guests(7, 7, 7, 7)}, {manyRooms(8, 1), guests(7, -1, 0, 1, 1, 2, 2, 3, 3, 4, 4, 5, 5, 6, 7, 0)}, {manyRooms(8, 4), sameGuests(5, 7, 0)}, {[]int64{1, 2, 3, 4}, guests(2, 0, 2, 0, 2, 0, 2, 0, -1, 0)}, {[]int64{1, 1, 1}, guests(-1, 2, 2, 1, 1, 0, 2, 2)},
	}
}

// invalidHalls have one fault each, or several ones.
func invalidHalls() []hall {
	list := append(overfull(), hall{nil, nil}, hall{[]int64{}, nil}, hall{nil, guests(-1, -1)}, hall{nil, guests(0, 0)}, hall{nil, guests(-1, 0)},
		hall{manyRooms(9, 1), nil}, hall{manyRooms(9, 4), guests(0, 1)}, hall{manyRooms(9, 1), guests(8, 0)}, hall{manyRooms(10, 2), nil}, hall{manyRooms(100000, 1), nil},
		hall{manyRooms(1, 1), sameGuests(9, -1, -1)}, hall{manyRooms(8, 4), sameGuests(9, -1, 0)}, hall{manyRooms(3, 4), slices.Concat(sameGuests(4, 0, 1), sameGuests(4, 1, 0), sameGuests(1, 2, 0))}, hall{manyRooms(8, 4), sameGuests(100000, -1, -1)}, hall{nil, sameGuests(9, 0, 0)})
	for _, rooms := range withWrongNumbers([][]int64{{1}, {4, 4}, {1, 2, 3, 4, 4, 3, 2, 1}}, math.MinInt64, -4, -1, 0, 5, 6, math.MaxInt64) {
		list = append(list, hall{rooms, nil}, hall{rooms, guests(-1, -1)}, hall{rooms, guests(-1, 0, 0, 0)})
	}
	for count := 1; count <= 8; count++ {
		for _, wrong := range []int64{math.MinInt64, math.MinInt64 + 1, -3, -2, int64(count), int64(count) + 1, 8, 9, math.MaxInt64} {
			rooms := manyRooms(count, 4)
			list = append(list, hall{rooms, guests(wrong, 0)}, hall{rooms, guests(0, wrong)}, hall{rooms, guests(wrong, wrong)}, hall{rooms, guests(-1, wrong)}, hall{rooms, guests(wrong, -1)})
			list = append(list, hall{rooms, guests(0, 0, -1, 0, wrong, 0)}, hall{rooms, guests(0, wrong, -1, 0, 0, 0)}, hall{rooms, guests(-1, -1, 0, wrong, 0, 0)})
		}
	}
	return list
}

func TestRoomLimits(t *testing.T) {
	check(t, "limits", []int64{impl.MaxRooms, impl.MaxPlaces, impl.MaxGuests}, []int64{8, 4, 8})
}

func TestExampleOfRooms(t *testing.T) {
	rooms, list := []int64{1, 1}, guests(0, 1, 1, 0)
	stuck, code := impl.IsStuck(rooms, list)
	check(t, "stuck", []any{stuck, code}, []any{true, int64(impl.OK)})
	out, code := impl.FewestOut(rooms, list)
	check(t, "out", []any{out, code}, []any{[]int64{0}, int64(impl.OK)})
	can, code := impl.CanGo(rooms, guests(-1, -1, 1, 0))
	check(t, "without the first guest", []any{can, code}, []any{[]int64{1}, int64(impl.OK)})
}

func TestValidRooms(t *testing.T) {
	for _, x := range cornerHalls() {
		check(t, fmt.Sprint(x), impl.ValidRooms(x.rooms, x.list), true)
	}
	for _, x := range invalidHalls() {
		check(t, brief(x), impl.ValidRooms(x.rooms, x.list), false)
	}
	for count := range 20 {
		check(t, fmt.Sprint("rooms ", count), impl.ValidRooms(manyRooms(count, 2), nil), 1 <= count && count <= 8)
		check(t, fmt.Sprint("guests ", count), impl.ValidRooms(manyRooms(2, 4), sameGuests(count, -1, 1)), count <= 8)
		check(t, fmt.Sprint("places ", count), impl.ValidRooms([]int64{2, int64(count) - 5, 2}, nil), 6 <= count && count <= 9)
		for places := int64(1); places <= 4; places++ {
			check(t, fmt.Sprint("full ", places, count), impl.ValidRooms([]int64{1, places}, sameGuests(count, 1, 0)), count <= int(places))
		}
	}
}

func TestWhereGuestsAre(t *testing.T) {
	for count := 1; count <= 8; count++ {
		for number := int64(-4); number <= 12; number++ {
			is := -1 <= number && number < int64(count)
			check(t, fmt.Sprint("at ", count, number), impl.ValidRooms(manyRooms(count, 2), guests(0, 0, number, 0)), is)
			check(t, fmt.Sprint("wants ", count, number), impl.ValidRooms(manyRooms(count, 2), guests(0, 0, 0, number)), is)
		}
	}
}

func TestSameGuests(t *testing.T) {
	list := [][]impl.Guest{
		nil, guests(0, 0), guests(0, 1), guests(1, 0), guests(-1, -1), guests(0, 0, 0, 0), guests(0, 0, 0, 1), guests(0, 1, 0, 0), guests(0, 0, 1, 0), guests(math.MinInt64, math.MaxInt64), guests(math.MaxInt64, math.MinInt64), guests(99, -99),
		sameGuests(8, 0, 0), sameGuests(9, 0, 0), sameGuests(9, 0, 1), append(sameGuests(8, 0, 0), guest(0, 1)), append(guests(0, 1), sameGuests(8, 0, 0)...),
	}
	for i, a := range list {
		for k, b := range list {
			check(t, fmt.Sprint(a, b), impl.SameGuests(a, slices.Clone(b)), i == k)
		}
	}
	check(t, "nil and empty lists", []bool{impl.SameGuests(nil, []impl.Guest{}), impl.SameGuests([]impl.Guest{}, nil)}, []bool{true, true})
}

// hallCase tells all that is known of a hall; an order or a circle of nil tells that there is none.
type hallCase struct {
	hall
	free, can []int64
	stuck     bool
	order     []int64
	circle    []int64
	out       []int64
	most      int64
}

// noGuests is an order without a guest.
func noGuests() []int64 { return []int64{} }

// orCode returns what stands for a list that should be there, or for the code beside a nil.
func orCode(list []int64, none int64) []any {
	if list == nil {
		return []any{0, none}
	}
	return []any{len(list), int64(impl.OK)}
}

func checkHall(t *testing.T, c hallCase) {
	t.Helper()
	name := fmt.Sprint(c.rooms, c.list)
	free, one := impl.FreePlaces(c.rooms, c.list)
	check(t, name+" free", free, c.free)
	can, two := impl.CanGo(c.rooms, c.list)
	check(t, name+" can", can, c.can)
	stuck, three := impl.IsStuck(c.rooms, c.list)
	check(t, name+" stuck", stuck, c.stuck)
	order, code := impl.GoOrder(c.rooms, c.list)
	check(t, name+" order", order, c.order)
	check(t, name+" order", []any{len(order), code}, orCode(c.order, impl.ErrStuck))
	circle, code := impl.WaitCircle(c.rooms, c.list)
	check(t, name+" circle", circle, c.circle)
	check(t, name+" circle", []any{len(circle), code}, orCode(c.circle, impl.ErrNotFound))
	out, four := impl.FewestOut(c.rooms, c.list)
	check(t, name+" out", out, c.out)
	most, five := impl.MostGone(c.rooms, c.list)
	check(t, name+" most", most, c.most)
	check(t, name+" codes", []int64{one, two, three, four, five}, make([]int64, 5))
}

func TestHallsWithoutCircles(t *testing.T) {
	for _, c := range []hallCase{
		{hall{manyRooms(1, 1), nil}, []int64{1}, nil, false, noGuests(), nil, nil, 0}, {hall{[]int64{4, 1, 2}, nil}, []int64{4, 1, 2}, nil, false, noGuests(), nil, nil, 0},
		// Guests that rest in a room, outside, and in full rooms.
		{hall{manyRooms(1, 1), guests(0, 0)}, []int64{0}, nil, false, noGuests(), nil, nil, 0}, {hall{manyRooms(1, 1), guests(-1, -1)}, []int64{1}, nil, false, noGuests(), nil, nil, 0}, {hall{[]int64{3, 2}, guests(0, 0, -1, -1, 1, 1, 0, 0, 1, 1)}, []int64{1, 0}, nil, false, noGuests(), nil, nil, 0},
		// Guests that want outside, also from full rooms.
		{hall{manyRooms(1, 1), guests(0, -1)}, []int64{0}, []int64{0}, false, []int64{0}, nil, nil, 1}, {hall{manyRooms(1, 4), append(sameGuests(4, 0, -1), sameGuests(4, -1, -1)...)}, []int64{0}, counted(4), false, counted(4), nil, nil, 4},
		// From outside into a free place, into a full room, and into one where a place becomes free.
		{hall{manyRooms(1, 1), guests(-1, 0)}, []int64{1}, []int64{0}, false, []int64{0}, nil, nil, 1}, {hall{manyRooms(1, 1), guests(-1, 0, 0, -1)}, []int64{0}, []int64{1}, false, []int64{1, 0}, nil, nil, 2}, {hall{manyRooms(2, 1), guests(1, 0, -1, 1, 0, -1)}, []int64{0, 0}, []int64{2}, false, []int64{2, 0, 1}, nil, nil, 3},
		// A guest that rests in a full room, and one that wants into its place.
		{hall{manyRooms(1, 1), guests(-1, 0, 0, 0)}, []int64{0}, nil, true, nil, nil, []int64{0}, 0}, {hall{manyRooms(1, 1), guests(0, 0, -1, 0)}, []int64{0}, nil, true, nil, nil, []int64{0}, 0}, {hall{[]int64{1, 2}, guests(0, 0, 1, 0)}, []int64{0, 1}, nil, true, nil, nil, []int64{0}, 0},
		{hall{[]int64{2, 2}, guests(1, 0, 0, 0, 1, 1, 0, 0)}, []int64{0, 0}, nil, true, nil, nil, []int64{0}, 0}, {hall{[]int64{2, 2}, guests(-1, -1, 0, 0, 1, 0, 0, 0, 1, 0)}, []int64{0, 0}, nil, true, nil, nil, []int64{1, 2}, 0},
		// There are more guests than places for all of them.
		{hall{manyRooms(1, 1), guests(-1, 0, -1, 0, -1, 0)}, []int64{1}, counted(3), false, nil, nil, []int64{0, 1}, 1}, {hall{manyRooms(1, 1), sameGuests(8, -1, 0)}, []int64{1}, counted(8), false, nil, nil, counted(7), 1}, {hall{manyRooms(1, 4), sameGuests(8, -1, 0)}, []int64{4}, counted(8), false, nil, nil, counted(4), 4},
		{hall{[]int64{1, 2}, guests(-1, 1, 0, -1, -1, 0, 1, 0)}, []int64{0, 1}, []int64{0, 1}, false, nil, nil, []int64{2}, 3},
		// Sets that are not next to one another; also without the last ones of all.
		{hall{manyRooms(2, 1), guests(-1, 0, -1, 0, -1, 1, -1, 1)}, []int64{1, 1}, counted(4), false, nil, nil, []int64{0, 2}, 2}, {hall{manyRooms(2, 1), guests(-1, 0, -1, 1, -1, 1, -1, 0)}, []int64{1, 1}, counted(4), false, nil, nil, []int64{0, 1}, 2},
		{hall{[]int64{1, 4}, guests(1, 0, 1, 1, -1, -1, 1, -1, 1, 0, -1, 1, 0, -1, -1, 1)}, []int64{0, 0}, []int64{3, 6}, false, nil, nil, []int64{0}, 5},
		// All can go in each order, and in one only.
		{hall{manyRooms(1, 2), guests(-1, 0, -1, 0)}, []int64{2}, counted(2), false, counted(2), nil, nil, 2}, {hall{manyRooms(8, 1), guests(0, 1, 1, 2, 2, 3, 3, 4, 4, 5, 5, 6, 6, 7)}, []int64{0, 0, 0, 0, 0, 0, 0, 1}, []int64{6}, false, reversed(7), nil, nil, 7},
		// The first guest must not go first, or not second, for two others would wait for each other.
		{hall{[]int64{2, 1}, guests(-1, 0, 0, 1, 1, 0)}, []int64{1, 0}, []int64{0, 2}, false, []int64{2, 1, 0}, nil, nil, 3}, {hall{[]int64{4, 2, 1}, guests(-1, -1, -1, 1, 1, 2, 2, 1, -1, 0)}, []int64{4, 1, 0}, []int64{1, 3, 4}, false, []int64{3, 2, 1, 4}, nil, nil, 4},
		{hall{[]int64{2, 1, 1}, guests(2, -1, -1, 0, 0, 1, 1, 0)}, []int64{1, 0, 0}, []int64{0, 1, 3}, false, []int64{0, 3, 2, 1}, nil, nil, 4}, {hall{[]int64{2, 1, 1}, guests(-1, 0, 2, -1, 0, 1, 1, 0)}, []int64{1, 0, 0}, []int64{0, 1, 3}, false, []int64{1, 3, 2, 0}, nil, nil, 4},
		{hall{manyRooms(3, 1), guests(2, 0, 1, 2, 0, -1, -1, -1)}, []int64{0, 0, 0}, []int64{2}, false, []int64{2, 0, 1}, nil, nil, 3},
		{hall{manyRooms(3, 1), guests(0, -1, 1, -1, -1, 2, -1, 0)}, []int64{0, 0, 1}, []int64{0, 1, 2}, false, []int64{0, 1, 2, 3}, nil, nil, 4},
		// The first guest that waits in a full room waits for one that rests: no circle, though the others wait for each other.
		{hall{[]int64{2, 1, 1}, guests(0, 2, 0, 1, 1, 0, 2, 2)}, []int64{0, 0, 0}, nil, true, nil, nil, []int64{0}, 0},
		// Free rooms for all of 8.
		{hall{manyRooms(8, 2), guests(0, 1, 1, 2, 2, 3, 3, 4, 4, 5, 5, 6, 6, 7, 7, 0)}, manyRooms(8, 1), counted(8), false, counted(8), nil, nil, 8},
	} {
		checkHall(t, c)
	}
}

func TestHallsWithCircles(t *testing.T) {
	round := guests(0, 1, 1, 2, 2, 3, 3, 4, 4, 5, 5, 6, 6, 7, 7, 0)
	for _, c := range []hallCase{
		// Of two, three and eight guests.
		{hall{manyRooms(2, 1), guests(0, 1, 1, 0)}, []int64{0, 0}, nil, true, nil, []int64{0, 1}, []int64{0}, 0}, {hall{manyRooms(3, 1), guests(0, 1, 1, 2, 2, 0)}, []int64{0, 0, 0}, nil, true, nil, []int64{0, 1, 2}, []int64{0}, 0}, {hall{manyRooms(3, 1), guests(0, 2, 1, 0, 2, 1)}, []int64{0, 0, 0}, nil, true, nil, []int64{0, 2, 1}, []int64{0}, 0},
		{hall{manyRooms(8, 1), round}, make([]int64, 8), nil, true, nil, counted(8), []int64{0}, 0}, {hall{manyRooms(2, 4), append(sameGuests(4, 0, 1), sameGuests(4, 1, 0)...)}, []int64{0, 0}, nil, true, nil, []int64{0, 4}, []int64{0}, 0},
		// Two circles, next to each other and among each other; and four ones.
		{hall{manyRooms(4, 1), guests(0, 1, 1, 0, 2, 3, 3, 2)}, make([]int64, 4), nil, true, nil, []int64{0, 1}, []int64{0, 2}, 0}, {hall{manyRooms(4, 1), guests(0, 1, 2, 3, 1, 0, 3, 2)}, make([]int64, 4), nil, true, nil, []int64{0, 2}, []int64{0, 1}, 0},
		{hall{manyRooms(4, 1), guests(3, 2, 1, 0, 0, 1, 2, 3)}, make([]int64, 4), nil, true, nil, []int64{0, 3}, []int64{0, 1}, 0}, {hall{manyRooms(8, 1), guests(0, 1, 1, 0, 2, 3, 3, 2, 4, 5, 5, 4, 6, 7, 7, 6)}, make([]int64, 8), nil, true, nil, []int64{0, 1}, []int64{0, 2, 4, 6}, 0},
		// One can go although the others cannot; and one that goes lets none of them go.
		{hall{manyRooms(3, 1), guests(0, 1, 1, 0, -1, 2)}, []int64{0, 0, 1}, []int64{2}, false, nil, []int64{0, 1}, []int64{0}, 1}, {hall{manyRooms(3, 1), guests(2, -1, 0, 1, 1, 0)}, []int64{0, 0, 0}, []int64{0}, false, nil, []int64{1, 2}, []int64{1}, 1},
		// The guest 0, from a room or from outside, waits for a circle, but is not part of it.
		{hall{manyRooms(3, 1), guests(2, 0, 0, 1, 1, 0)}, []int64{0, 0, 0}, nil, true, nil, []int64{1, 2}, []int64{2}, 0}, {hall{manyRooms(2, 1), guests(-1, 0, 0, 1, 1, 0)}, []int64{0, 0}, nil, true, nil, []int64{1, 2}, []int64{2}, 0}, {hall{manyRooms(2, 1), guests(-1, 1, -1, 0, 1, 0, 0, 1)}, []int64{0, 0}, nil, true, nil, []int64{2, 3}, []int64{0, 2}, 0},
		{hall{manyRooms(4, 1), guests(3, 2, 2, 0, 0, 1, 1, 0)}, make([]int64, 4), nil, true, nil, []int64{2, 3}, []int64{3}, 0},
		// A circle that is not at the beginning of what waits for it: the guest 1 leads into it.
		{hall{[]int64{2, 1, 1}, guests(0, 1, 2, 0, 1, 0, 0, 0)}, []int64{0, 0, 0}, nil, true, nil, []int64{0, 2}, []int64{2}, 0},
		// Rooms with several places: the first guest there rests, can go, or waits for another circle.
		{hall{[]int64{2, 1}, guests(0, 0, 0, 1, 1, 0)}, []int64{0, 0}, nil, true, nil, []int64{1, 2}, []int64{0}, 0}, {hall{[]int64{2, 1}, guests(0, -1, 0, 1, 1, 0)}, []int64{0, 0}, []int64{0}, false, []int64{0, 2, 1}, []int64{1, 2}, nil, 3}, {hall{[]int64{2, 1, 1}, guests(0, 2, 0, 1, 1, 0)}, []int64{0, 0, 1}, []int64{0}, false, []int64{0, 2, 1}, []int64{1, 2}, nil, 3},
		{hall{[]int64{2, 1, 1, 1}, guests(0, 2, 0, 1, 1, 0, 2, 3, 3, 2)}, make([]int64, 4), nil, true, nil, []int64{3, 4}, []int64{4}, 0},
		// A circle beside which all can go; the first guest must not take the place that becomes free.
		{hall{[]int64{2, 1}, guests(-1, 0, 0, 1, 1, 0, 0, -1)}, []int64{0, 0}, []int64{3}, false, []int64{3, 2, 1, 0}, []int64{1, 2}, nil, 4},
		// More can go if the first guest does not go first.
		{hall{[]int64{2, 1, 1, 1}, guests(-1, 0, 0, 1, 1, 0, 2, 3, 3, 2)}, []int64{1, 0, 0, 0}, []int64{0, 2}, false, nil, []int64{3, 4}, []int64{3}, 3},
	} {
		checkHall(t, c)
	}
}

func TestGoOne(t *testing.T) {
	two := hall{[]int64{1, 2}, guests(0, 1, 1, -1, -1, 1, 1, 1, -1, -1)}
	for _, c := range []struct {
		hall
		k    int64
		want []impl.Guest
		code int64
	}{
		{hall{manyRooms(1, 1), guests(-1, 0)}, 0, guests(0, 0), impl.OK}, {hall{manyRooms(1, 1), guests(0, -1)}, 0, guests(-1, -1), impl.OK}, {hall{manyRooms(2, 1), guests(0, 1)}, 0, guests(1, 1), impl.OK}, {hall{manyRooms(8, 1), guests(7, 0, -1, 1)}, 0, guests(0, 0, -1, 1), impl.OK}, {hall{manyRooms(8, 1), guests(7, 0, -1, 1)}, 1, guests(7, 0, 1, 1), impl.OK},
		{two, 0, nil, impl.ErrFull}, {two, 1, guests(0, 1, -1, -1, -1, 1, 1, 1, -1, -1), impl.OK}, {two, 2, nil, impl.ErrFull}, {two, 3, nil, impl.ErrState}, {two, 4, nil, impl.ErrState},
		// A guest that rests in a full room does not want to go, though its room is full.
		{hall{manyRooms(1, 1), guests(0, 0)}, 0, nil, impl.ErrState}, {hall{manyRooms(1, 1), guests(0, 0, -1, 0)}, 1, nil, impl.ErrFull}, {hall{manyRooms(1, 1), guests(-1, -1)}, 0, nil, impl.ErrState}, {hall{manyRooms(1, 4), sameGuests(4, 0, 0)}, 3, nil, impl.ErrState},
		// The last place, and none.
		{hall{manyRooms(1, 4), append(sameGuests(3, 0, 0), guest(-1, 0))}, 3, sameGuests(4, 0, 0), impl.OK}, {hall{manyRooms(1, 4), append(sameGuests(4, 0, 0), guest(-1, 0))}, 4, nil, impl.ErrFull}, {hall{manyRooms(2, 1), guests(0, 1, 1, 0)}, 0, nil, impl.ErrFull}, {hall{manyRooms(2, 1), guests(0, 1, 1, 0)}, 1, nil, impl.ErrFull},
		{hall{manyRooms(1, 1), sameGuests(8, -1, 0)}, 7, append(sameGuests(7, -1, 0), guest(0, 0)), impl.OK}, {hall{manyRooms(1, 1), append(sameGuests(7, -1, 0), guest(0, 0))}, 0, nil, impl.ErrFull},
	} {
		next, code := impl.GoOne(c.rooms, c.list, c.k)
		check(t, fmt.Sprint(c), next, c.want)
		check(t, fmt.Sprint(c), code, c.code)
	}
}

// hallCalls are the functions of chapter 10; each returns its results, the code last.
func hallCalls(x hall, k int64) map[string][]any {
	calls := map[string][]any{}
	put := func(name string, results ...any) { calls[name] = results }
	free, code := impl.FreePlaces(x.rooms, x.list)
	put("FreePlaces", free, code)
	can, code := impl.CanGo(x.rooms, x.list)
	put("CanGo", can, code)
	next, code := impl.GoOne(x.rooms, x.list, k)
	put("GoOne", next, code)
	stuck, code := impl.IsStuck(x.rooms, x.list)
	put("IsStuck", stuck, code)
	order, code := impl.GoOrder(x.rooms, x.list)
	put("GoOrder", order, code)
	circle, code := impl.WaitCircle(x.rooms, x.list)
	put("WaitCircle", circle, code)
	out, code := impl.FewestOut(x.rooms, x.list)
	put("FewestOut", out, code)
	most, code := impl.MostGone(x.rooms, x.list)
	put("MostGone", most, code)
	return calls
}

var allHallCalls = []string{"FreePlaces", "CanGo", "GoOne", "IsStuck", "GoOrder", "WaitCircle", "FewestOut", "MostGone"}

// Invalid guests go before everything else.
func TestInvalidHalls(t *testing.T) {
	for _, x := range invalidHalls() {
		for _, k := range []int64{math.MinInt64, -1, 0, int64(len(x.list)) - 1, int64(len(x.list)), math.MaxInt64} {
			checkErrorResults(t, hallCalls(x, k), impl.ErrInvalid, allHallCalls...)
		}
	}
	// Also where guests rest, are stuck, wait in a circle, or cannot go.
	circle, resting := guests(0, 1, 1, 0, 2, 2), guests(-1, -1, 0, 0)
	for _, rooms := range [][]int64{{1, 1}, {1, 1, 0}, {1, 1, 5}, append(manyRooms(8, 1), 1), {0, 1, 1}} {
		checkErrorResults(t, hallCalls(hall{rooms, circle}, 0), impl.ErrInvalid, allHallCalls...)
	}
	for _, rooms := range [][]int64{nil, {0}, {5}, {-1}, manyRooms(9, 2)} {
		checkErrorResults(t, hallCalls(hall{rooms, resting}, 1), impl.ErrInvalid, allHallCalls...)
	}
}

func TestRangeOfGuests(t *testing.T) {
	for _, x := range cornerHalls() {
		count := int64(len(x.list))
		for _, k := range []int64{math.MinInt64, math.MinInt64 + 1, -2, -1, count, count + 1, 8, 9, math.MaxInt64 - 1, math.MaxInt64} {
			checkErrorResults(t, hallCalls(x, k), impl.ErrRange, "GoOne")
		}
		for k := range count {
			if _, code := impl.GoOne(x.rooms, x.list, k); code == impl.ErrRange {
				t.Errorf("%v: the guest %d is out of range", x, k)
			}
		}
	}
}

func TestCodesOfCornerHalls(t *testing.T) {
	for _, x := range cornerHalls() {
		calls := hallCalls(x, 0)
		for _, name := range []string{"FreePlaces", "CanGo", "IsStuck", "FewestOut", "MostGone"} {
			results := calls[name]
			check(t, fmt.Sprint(name, x), results[len(results)-1], int64(impl.OK))
		}
	}
	for _, name := range []string{"GoOrder", "WaitCircle"} {
		code := map[string]int64{"GoOrder": impl.ErrStuck, "WaitCircle": impl.ErrNotFound}[name]
		checkErrorResults(t, hallCalls(hall{manyRooms(1, 1), guests(-1, 0, 0, 0)}, 0), code, name)
	}
	checkErrorResults(t, hallCalls(hall{manyRooms(1, 1), guests(0, 0, -1, 0)}, 0), impl.ErrState, "GoOne")
	checkErrorResults(t, hallCalls(hall{manyRooms(1, 1), guests(0, 0, -1, 0)}, 1), impl.ErrFull, "GoOne")
}
