package tests

import (
	"fmt"
	"math"
	"slices"
	"strings"
	"testing"

	"loop.example/g01046/impl"
)

// travels is some halls, and the ways of carriers through them.
type travels struct {
	halls []int64
	ways  [][]int64
}

// digits are numbers of one digit each.
func digits(text string) []int64 {
	var list []int64
	for _, r := range text {
		list = append(list, int64(r-'0'))
	}
	return list
}

// travel has halls and ways by their digits.
func travel(halls, ways string) travels {
	x := travels{halls: digits(halls)}
	for _, way := range strings.Fields(ways) {
		x.ways = append(x.ways, digits(way))
	}
	return x
}

// sameWays are so many equal ones.
func sameWays(count int, way string) [][]int64 {
	return slices.Repeat([][]int64{digits(way)}, count)
}

// cornerTravels are valid, and lie at the limits.
func cornerTravels() []travels {
	return []travels{
		{digits("1"), nil}, {digits("3"), [][]int64{}}, travel("111111", ""), travel("333333", ""), travel("1", "0"), travel("3", "0"), travel("1", "0 0 0 0"), travel("3", "0 0 0 0"), travel("2", "0 0"), travel("123", "0 1 2"),
		travel("11", "01"), travel("11", "10"), travel("11", "01010"), travel("11", "01 10"), travel("22", "01 10"), travel("11", "01010 10101"), travel("11", "01010 10101 01010 10101"), travel("33", "01010 10101 01010 10101"), travel("12", "01010 01010 01010 01010"),
		travel("111111", "01234 54321 13524 50505"), travel("333333", "50505 50505 50505 50505"), travel("111111", "5 5 5 5"), travel("123321", "01234 12345 54321 43210"), travel("111111", "0 1 2 3"), travel("1111", "01 12 23 30"), travel("1111", "0123 3210"),
	}
}

// invalidTravels have one fault each, or several ones.
func invalidTravels() []travels {
	list := []travels{
		{nil, nil}, {[]int64{}, nil}, {nil, [][]int64{digits("0")}}, travel("1111111", ""), travel("1111111", "0"), travel("1111111", "6"), travel("11111111", "01 10"), {slices.Repeat([]int64{1}, 100000), nil},
		travel("1", "0 0 0 0 0"), travel("33", "01 10 01 10 01"), {digits("333333"), sameWays(5, "50505")}, {digits("11"), sameWays(100000, "01")}, {nil, sameWays(5, "0")}, {digits("11"), make([][]int64, 5)},
		{digits("1"), [][]int64{nil}}, {digits("1"), [][]int64{{}}}, {digits("111"), [][]int64{digits("0"), nil, digits("2")}}, {digits("111"), make([][]int64, 4)}, {digits("11"), [][]int64{digits("01"), {}}},
		travel("11", "010101"), travel("11", "01 101010"), travel("111111", "012345"), travel("333333", "0 0 0 543210"), {digits("11"), [][]int64{slices.Repeat(digits("01"), 50000)}},
		// The same hall twice in succession: at the begin, in the middle, and at the end of a way.
		travel("1", "00"), travel("3", "00"), travel("33", "001"), travel("33", "0110"), travel("33", "011"), travel("33", "1100"), travel("33", "01011"), travel("33", "00101"), travel("33", "01101"), travel("111111", "01 55"), travel("33", "000"), travel("11", "01 10 01 11"),
	}
	for _, halls := range withWrongNumbers([][]int64{{1}, {1, 2, 3}, {3, 3, 3, 3, 3, 3}}, math.MinInt64, math.MinInt64+1, -3, -1, 0, 4, 5, math.MaxInt64) {
		list = append(list, travels{halls, nil}, travels{halls, sameWays(1, "0")}, travels{halls, sameWays(5, "0")})
	}
	for count := 1; count <= 6; count++ {
		ways := [][]int64{{0}, counted(int64(count))[:min(count, 5)]}
		for _, wrong := range withWrongNumbers(ways, math.MinInt64, math.MinInt64+1, -2, -1, int64(count), int64(count)+1, 6, 7, math.MaxInt64) {
			list = append(list, travels{manyRooms(count, 3), [][]int64{wrong}}, travels{manyRooms(count, 1), [][]int64{{0}, wrong, {0}}}, travels{manyRooms(count, 3), [][]int64{{0}, {0}, {0}, wrong}})
		}
	}
	return list
}

// wrongPlaces are no state of the carriers, each list for one reason.
func wrongPlaces(x travels) [][]int64 {
	start, end := x.start(), x.end()
	list := [][]int64{append(slices.Clone(start), 0), append(slices.Clone(end), 1), append([]int64{0}, end...), slices.Repeat([]int64{0}, len(x.ways)+2), make([]int64, 5), make([]int64, 100000)}
	if len(x.ways) == 0 {
		return list
	}
	list = append(list, nil, []int64{}, start[1:], end[1:])
	for k, last := range end {
		for _, wrong := range []int64{math.MinInt64, math.MinInt64 + 1, -2, -1, last + 1, last + 2, 7, 8, math.MaxInt64 - 1, math.MaxInt64} {
			list = append(list, withNumber(x.start(), k, wrong), withNumber(x.end(), k, wrong))
		}
	}
	return list
}

func TestPolicyLimits(t *testing.T) {
	check(t, "limits", []int64{impl.MaxTravellers, impl.MaxStays, impl.MaxHalls, impl.MaxHall}, []int64{4, 5, 6, 3})
}

func TestExampleOfPolicies(t *testing.T) {
	x := travel("11", "01 10")
	moves, code := impl.FirstDeadlock(x.halls, x.ways)
	check(t, "deadlock", []any{moves, code}, []any{[]int64{0, 1}, int64(impl.OK)})
	most, code := impl.MostAtOnce(x.halls, x.ways)
	check(t, "most", []int64{most, code}, []int64{1, impl.OK})
}

func TestValidTravels(t *testing.T) {
	for _, x := range cornerTravels() {
		check(t, fmt.Sprint(x), impl.ValidTravels(x.halls, x.ways), true)
	}
	for _, x := range invalidTravels() {
		check(t, brief(x), impl.ValidTravels(x.halls, x.ways), false)
	}
	for count := range 20 {
		check(t, fmt.Sprint("halls ", count), impl.ValidTravels(manyRooms(count, 2), nil), 1 <= count && count <= 6)
		check(t, fmt.Sprint("carriers ", count), impl.ValidTravels(digits("12"), sameWays(count, "01")), count <= 4)
		check(t, fmt.Sprint("stays ", count), impl.ValidTravels(digits("12"), [][]int64{{1}, slices.Repeat(digits("01"), 10)[:count]}), 1 <= count && count <= 5)
		check(t, fmt.Sprint("hall ", count), impl.ValidTravels([]int64{2, int64(count) - 5, 2}, nil), 6 <= count && count <= 8)
	}
	for count := 1; count <= 6; count++ {
		for hall := int64(-4); hall <= 12; hall++ {
			is := 0 <= hall && hall < int64(count)
			check(t, fmt.Sprint("through ", count, hall), impl.ValidTravels(manyRooms(count, 1), [][]int64{{0}, {hall}}), is)
			check(t, fmt.Sprint("then ", count, hall), impl.ValidTravels(manyRooms(count, 1), [][]int64{{0, hall}, {0}}), is && hall != 0)
		}
	}
}

// All ways through three halls, also of six places.
func TestNoHallTwiceInSuccession(t *testing.T) {
	for length := range 7 {
		for way := range daysOf(length, 3) {
			want := 1 <= length && length <= 5
			for i, hall := range way {
				want = want && (i == 0 || way[i-1] != hall)
			}
			check(t, fmt.Sprint(way), impl.ValidTravels(digits("111"), [][]int64{way}), want)
		}
	}
}

func TestValidPlaces(t *testing.T) {
	for _, x := range cornerTravels() {
		check(t, fmt.Sprint(x), []bool{impl.ValidPlaces(x.halls, x.ways, x.start()), impl.ValidPlaces(x.halls, x.ways, x.end())}, []bool{true, true})
		for _, places := range wrongPlaces(x) {
			check(t, brief(x, places), impl.ValidPlaces(x.halls, x.ways, places), false)
		}
	}
	for _, x := range invalidTravels() {
		for _, places := range [][]int64{nil, {0}, x.start(), x.end()} {
			check(t, brief(x, places), impl.ValidPlaces(x.halls, x.ways, places), false)
		}
	}
	for _, c := range []struct {
		halls, ways, places string
		want                bool
	}{
		// As many carriers as a hall can hold, and one more.
		{"1", "0 0", "10", true}, {"1", "0 0", "11", false}, {"2", "0 0 0", "110", true}, {"2", "0 0 0", "111", false}, {"3", "0 0 0 0", "1110", true}, {"3", "0 0 0 0", "1111", false}, {"3", "0 0 0 0", "2111", true}, {"13", "01 10", "12", false}, {"13", "01 10", "21", true}, {"31", "01 10", "12", true}, {"31", "01 10", "21", false},
		{"11", "01 10", "11", true}, {"11", "01 10", "22", true}, {"11", "01 10", "12", false}, {"11", "01 10", "21", false}, {"11", "010 10", "32", false}, {"11", "010 10", "12", false}, {"21", "010 10", "32", true}, {"21", "010 10", "31", true}, {"111111", "05 50", "21", false}, {"111112", "05 50", "21", true},
		// Those in front of their ways and those that are done are in no hall.
		{"1", "0 0 0 0", "0000", true}, {"1", "0 0 0 0", "2222", true}, {"1", "0 0 0 0", "0202", true}, {"1", "0 0 0 0", "0212", true}, {"1", "0 0 0 0", "1022", true}, {"1", "0 0 0 0", "1212", false},
	} {
		x := travel(c.halls, c.ways)
		check(t, fmt.Sprint(c), impl.ValidPlaces(x.halls, x.ways, digits(c.places)), c.want)
	}
}

func TestStates(t *testing.T) {
	for _, c := range []struct {
		halls, ways, places string
		moves               string
		safe                bool
		safeMoves           string
	}{
		// No carrier, and one alone: in front of its way, in halls, and done.
		{"1", "", "", "", true, ""}, {"1", "0", "0", "0", true, "0"}, {"1", "0", "1", "0", true, "0"}, {"1", "0", "2", "", true, ""}, {"11", "01010", "5", "0", true, "0"}, {"11", "01010", "6", "", true, ""}, {"33", "01010", "0", "0", true, "0"},
		// All are outside in front of their ways, all are done, and some of each.
		{"11", "01 10", "00", "01", true, "01"}, {"11", "01 10", "33", "", true, ""}, {"11", "01 10", "30", "1", true, "1"}, {"11", "01 10", "03", "0", true, "0"}, {"1", "0 0 0 0", "0202", "02", true, "02"}, {"1", "0 0 0 0", "2222", "", true, ""}, {"3", "0 0 0 0", "0000", "0123", true, "0123"},
		// A move that is not safe, a deadlock, and a state that is not reached.
		{"11", "01 10", "10", "01", true, "0"}, {"11", "01 10", "01", "01", true, "1"}, {"11", "01 10", "11", "", false, ""}, {"11", "01 10", "22", "01", true, "01"}, {"11", "01 10", "20", "0", true, "0"}, {"11", "01 10", "02", "1", true, "1"}, {"11", "01 10", "23", "0", true, "0"}, {"11", "01 10", "13", "0", true, "0"}, {"11", "01 10", "31", "1", true, "1"},
		// A carrier is done while others can go on, and while others cannot.
		{"111", "01 10 2", "112", "", false, ""}, {"111", "01 10 2", "102", "01", true, "0"}, {"111", "01 10 2", "332", "", true, ""}, {"111", "2 01 10", "200", "12", true, "12"}, {"111", "2 01 10", "211", "", false, ""}, {"111", "2 01 10", "210", "12", true, "1"}, {"1111", "01 10 23 32", "3311", "", false, ""}, {"1111", "01 10 23 32", "3010", "123", true, "12"},
		// Some can go on, but not all can be done.
		{"111", "01 10 2", "110", "2", false, ""}, {"111", "01 10 2", "111", "2", false, ""}, {"1111", "01 10 23 32", "1100", "23", false, ""}, {"1111", "01 10 23 32", "1122", "23", false, ""}, {"1111", "01 10 23 32", "1111", "", false, ""},
		// The next hall is full, has one room left, and is free.
		{"2", "0 0 0", "000", "012", true, "012"}, {"2", "0 0 0", "100", "012", true, "012"}, {"2", "0 0 0", "110", "01", true, "01"}, {"12", "01 1 1", "111", "12", true, "12"}, {"12", "01 1 1", "110", "012", true, "012"}, {"12", "01 1 1", "100", "012", true, "012"}, {"31", "10 0 0 0", "1110", "0123", true, "0123"}, {"31", "10 0 0 0", "1111", "123", true, "123"},
		// The next place is outside while all halls are full.
		{"1", "0 0", "10", "0", true, "0"}, {"3", "0 0 0 0", "1110", "012", true, "012"}, {"11", "01 10", "22", "01", true, "01"}, {"11", "01 0", "21", "01", true, "01"}, {"111", "012 1 2", "111", "12", true, "12"}, {"111", "012 1 210", "111", "1", false, ""}, {"111", "01 10 2", "111", "2", false, ""},
		// A circle of three and of four; one that waits for it.
		{"111", "01 12 20", "110", "12", true, "1"}, {"111", "01 12 20", "111", "", false, ""}, {"1111", "01 12 23 30", "1110", "23", true, "2"}, {"1111", "01 12 23 30", "1111", "", false, ""}, {"11", "01 10 01", "110", "", false, ""}, {"11", "01 10 01", "100", "01", true, "0"},
		// Where a hall can hold two, one of them may come from the other side.
		{"21", "01 10 01", "110", "12", true, "1"}, {"21", "01 10 01", "011", "01", true, "1"}, {"21", "01 10 01", "111", "", false, ""}, {"21", "01 10 01", "010", "012", true, "012"},
	} {
		x, places, name := travel(c.halls, c.ways), digits(c.places), fmt.Sprint(c)
		moves, one := impl.NextMoves(x.halls, x.ways, places)
		check(t, name+" moves", moves, digits(c.moves))
		safe, two := impl.IsSafe(x.halls, x.ways, places)
		check(t, name+" safe", safe, c.safe)
		safeMoves, three := impl.SafeMoves(x.halls, x.ways, places)
		check(t, name+" safe moves", safeMoves, digits(c.safeMoves))
		check(t, name+" codes", []int64{one, two, three}, make([]int64, 3))
	}
}

// noDeadlock stands for the moves to a deadlock.
const noDeadlock = "-"

func TestTravels(t *testing.T) {
	for _, c := range []struct {
		halls, ways string
		reached     int64
		deadlock    string
		run         string
		most        int64
	}{
		// No carrier, and one alone.
		{"1", "", 1, noDeadlock, "", 0}, {"333333", "", 1, noDeadlock, "", 0}, {"1", "0", 3, noDeadlock, "00", 1}, {"11", "01010", 7, noDeadlock, "000000", 1},
		// In the same direction, all may be inside.
		{"1", "0 0", 8, noDeadlock, "0011", 2}, {"2", "0 0", 9, noDeadlock, "0011", 2}, {"11", "01 01", 14, noDeadlock, "000111", 2}, {"1", "0 0 0 0", 48, noDeadlock, "00112233", 4}, {"3", "0 0 0 0", 80, noDeadlock, "00112233", 4}, {"111", "0 1 2", 27, noDeadlock, "001122", 3},
		// In opposite directions, with one place and with several ones.
		{"11", "01 10", 13, "01", "000111", 1}, {"21", "01 10", 15, noDeadlock, "000111", 2}, {"22", "01 10", 16, noDeadlock, "000111", 2}, {"21", "01 01 10", 53, "012", "000111222", 2}, {"22", "01 01 10 10", 229, "0123", "000111222333", 3}, {"11", "01 10 01", 40, "01", "000111222", 1},
		// The carrier that is not in the way must be done; where it waits for a full hall, it need not.
		{"111", "01 10 2", 39, "0122", "00011122", 1}, {"111", "2 01 10", 39, "0012", "00111222", 1}, {"11", "0 01 10", 34, "12", "00111222", 1}, {"11", "01 10 0", 34, "01", "00011122", 1}, {"11", "01 0 10", 34, "02", "00011222", 1},
		// Two deadlocks of pairs; one of them is not enough.
		{"1111", "01 10 23 32", 169, "0123", "000111222333", 1}, {"1111", "01 23 10 32", 169, "0123", "000111222333", 1},
		// Circles.
		{"111", "01 12 20", 51, "012", "000111222", 2}, {"1111", "01 12 23 30", 193, "0123", "000111222333", 3}, {"1111", "0123 3210", 26, "0001", "0000011111", 1}, {"111", "012 210", 19, "001", "00001111", 1},
		// Several lists of the same length: they differ in the first number, or in a later one.
		{"11", "10 01", 13, "01", "000111", 1}, {"11", "101 01", 16, "01", "0000111", 1}, {"111", "201 10", 17, "001", "0000111", 1}, {"111", "10 201", 17, "011", "0001111", 1},
	} {
		x, name := travel(c.halls, c.ways), fmt.Sprint(c)
		many, one := impl.CountReached(x.halls, x.ways)
		check(t, name+" reached", many, c.reached)
		run, two := impl.SafeRun(x.halls, x.ways)
		check(t, name+" run", run, digits(c.run))
		most, three := impl.MostAtOnce(x.halls, x.ways)
		check(t, name+" most", most, c.most)
		free, four := impl.IsFree(x.halls, x.ways)
		check(t, name+" free", free, c.deadlock == noDeadlock)
		check(t, name+" codes", []int64{one, two, three, four}, make([]int64, 4))
		moves, code := impl.FirstDeadlock(x.halls, x.ways)
		if c.deadlock == noDeadlock {
			check(t, name+" deadlock", []any{len(moves), code}, []any{0, int64(impl.ErrNotFound)})
			continue
		}
		check(t, name+" deadlock", []any{moves, code}, []any{digits(c.deadlock), int64(impl.OK)})
	}
}

// stateCalls are the functions of chapter 12 that take places; each returns its results, the code last.
func stateCalls(x travels, places []int64) map[string][]any {
	moves, one := impl.NextMoves(x.halls, x.ways, places)
	safe, two := impl.IsSafe(x.halls, x.ways, places)
	safeMoves, three := impl.SafeMoves(x.halls, x.ways, places)
	return map[string][]any{"NextMoves": {moves, one}, "IsSafe": {safe, two}, "SafeMoves": {safeMoves, three}}
}

// travelCalls are those that take no places.
func travelCalls(x travels) map[string][]any {
	many, one := impl.CountReached(x.halls, x.ways)
	deadlock, two := impl.FirstDeadlock(x.halls, x.ways)
	free, three := impl.IsFree(x.halls, x.ways)
	run, four := impl.SafeRun(x.halls, x.ways)
	most, five := impl.MostAtOnce(x.halls, x.ways)
	return map[string][]any{"CountReached": {many, one}, "FirstDeadlock": {deadlock, two}, "IsFree": {free, three}, "SafeRun": {run, four}, "MostAtOnce": {most, five}}
}

var (
	allStateCalls  = []string{"NextMoves", "IsSafe", "SafeMoves"}
	allTravelCalls = []string{"CountReached", "FirstDeadlock", "IsFree", "SafeRun", "MostAtOnce"}
)

// Invalid halls and ways go before places that are no state, and before everything else.
func TestInvalidTravels(t *testing.T) {
	for _, x := range invalidTravels() {
		checkErrorResults(t, travelCalls(x), impl.ErrInvalid, allTravelCalls...)
		for _, places := range [][]int64{nil, {0}, {-1}, {9, 9}, x.start(), x.end(), make([]int64, 5)} {
			checkErrorResults(t, stateCalls(x, places), impl.ErrInvalid, allStateCalls...)
		}
	}
}

func TestRangeOfPlaces(t *testing.T) {
	for _, x := range cornerTravels() {
		for _, places := range wrongPlaces(x) {
			checkErrorResults(t, stateCalls(x, places), impl.ErrRange, allStateCalls...)
		}
		for _, places := range [][]int64{x.start(), x.end()} {
			for name, results := range stateCalls(x, places) {
				check(t, fmt.Sprint(name, x, places), results[1], int64(impl.OK))
			}
		}
	}
	for _, c := range [][3]string{{"1", "0 0", "11"}, {"3", "0 0 0 0", "1111"}, {"11", "01 10", "12"}, {"11", "01 10", "21"}, {"111", "01 10 2", "121"}, {"21", "010 10 0", "321"}} {
		checkErrorResults(t, stateCalls(travel(c[0], c[1]), digits(c[2])), impl.ErrRange, allStateCalls...)
	}
}

func TestCodesOfCornerTravels(t *testing.T) {
	for _, x := range cornerTravels() {
		calls := travelCalls(x)
		for _, name := range []string{"CountReached", "IsFree", "SafeRun", "MostAtOnce"} {
			check(t, fmt.Sprint(name, x), calls[name][1], int64(impl.OK))
		}
		if calls["IsFree"][0] == true {
			checkErrorResults(t, calls, impl.ErrNotFound, "FirstDeadlock")
		}
	}
}
