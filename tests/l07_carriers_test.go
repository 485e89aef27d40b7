package tests

import (
	"fmt"
	"math"
	"slices"
	"testing"

	"loop.example/g01046/impl"
)

func move(from, to, many int64) impl.Move { return impl.Move{From: from, To: to, Many: many} }

func seal(runs, most int64) impl.Seal { return impl.Seal{Runs: runs, Most: most} }

// equalCosts are the same from each of some stations to each one.
func equalCosts(stations int, cost int64) [][]int64 {
	var costs [][]int64
	for range stations {
		costs = append(costs, slices.Repeat([]int64{cost}, stations))
	}
	return costs
}

// cornerStocks lie at the limits.
func cornerStocks() [][]int64 {
	return [][]int64{
		{0, 0}, {3, 0}, {0, 1}, {200, 0}, {0, 200}, {100, 100}, {1, 199}, {0, 0, 0}, {0, 200, 0}, {67, 67, 66},
		make([]int64, 10), slices.Repeat([]int64{20}, 10), append(make([]int64, 9), 200), {200, 0, 0, 0, 0, 0, 0, 0, 0, 0}, slices.Repeat([]int64{22}, 9),
	}
}

// invalidStocks are no stocks: too few or too many stations, wrong numbers, or too great a sum.
func invalidStocks() [][]int64 {
	list := [][]int64{
		nil, {}, {0}, {3}, {200}, make([]int64, 11), slices.Repeat([]int64{1}, 11), make([]int64, 100000),
		{100, 101}, {200, 1}, {1, 200}, {200, 200}, {1, 0, 200}, append(slices.Repeat([]int64{20}, 9), 21), slices.Repeat([]int64{200}, 10),
		// Sums that are less than 201 only because of wrong numbers, or of too great ones.
		{201, -1}, {-1, 201}, {-5, 5}, {math.MaxInt64, math.MaxInt64}, {math.MaxInt64, 1}, {math.MinInt64, math.MaxInt64}, {math.MinInt64, math.MinInt64},
	}
	return append(list, withWrongNumbers([][]int64{{0, 0}, {3, 0, 4}, make([]int64, 10)}, math.MinInt64, -200, -1, 201, math.MaxInt64)...)
}

// wrongMoves are none between so many stations.
func wrongMoves(stations int64) []impl.Move {
	list := []impl.Move{{}, move(1, 1, 1), move(0, 0, 0), move(-1, -1, 1), move(stations, stations+1, 1)}
	for station := range stations {
		list = append(list, move(station, station, 1))
	}
	for _, wrong := range []int64{math.MinInt64, -1, stations, stations + 1, math.MaxInt64} {
		list = append(list, move(wrong, 0, 1), move(0, wrong, 1), move(wrong, wrong, 1))
	}
	for _, many := range []int64{math.MinInt64, -200, -1, 0, 201, math.MaxInt64} {
		list = append(list, move(0, 1, many), move(1, 0, many))
	}
	return list
}

// wrongMoveLists have a move that is none between so many stations, or too many moves.
func wrongMoveLists(stations int64) [][]impl.Move {
	list := [][]impl.Move{slices.Repeat([]impl.Move{move(0, 1, 1)}, 41), slices.Repeat([]impl.Move{move(0, 1, 1), move(1, 0, 1)}, 50000)}
	for _, m := range wrongMoves(stations) {
		// In front of, between and behind moves, which may be possible or not.
		list = append(list, []impl.Move{m}, []impl.Move{m, move(0, 1, 1)}, []impl.Move{move(0, 1, 200), m, move(1, 0, 200)}, []impl.Move{move(0, 1, 1), m})
	}
	return append(list, append(slices.Repeat([]impl.Move{move(0, 1, 1)}, 39), move(0, 0, 1)))
}

// wrongWants are no wants of so many stations.
func wrongWants(stations int) [][]int64 {
	list := [][]int64{nil, {}, {0}, make([]int64, stations-1), make([]int64, stations+1), slices.Repeat([]int64{200}, stations+1), make([]int64, 100000)}
	valid := [][]int64{make([]int64, stations), slices.Repeat([]int64{200}, stations)}
	return append(list, withWrongNumbers(valid, math.MinInt64, -1, 201, math.MaxInt64)...)
}

// wrongCosts are no costs of so many stations.
func wrongCosts(stations int) [][][]int64 {
	list := [][][]int64{nil, {}, {{}}, make([][]int64, stations), make([][]int64, 100000), equalCosts(stations, -1), equalCosts(stations, 1001)}
	list = append(list, equalCosts(stations, 1)[1:], append(equalCosts(stations, 1), slices.Repeat([]int64{1}, stations)))
	for station := range stations {
		for _, row := range append(withWrongNumbers([][]int64{make([]int64, stations)}, math.MinInt64, -1, 1001, math.MaxInt64), nil, make([]int64, stations-1), make([]int64, stations+1)) {
			costs := equalCosts(stations, 1000)
			costs[station] = row
			list = append(list, costs)
		}
	}
	return list
}

// otherCosts are costs of too few or too many stations.
func otherCosts() [][][]int64 {
	return [][][]int64{equalCosts(1, 0), equalCosts(1, 5), equalCosts(11, 0), equalCosts(11, 5), equalCosts(12, 1)}
}

func TestCarrierLimits(t *testing.T) {
	check(t, "limits", []int64{impl.MaxStock, impl.MaxMoves, impl.MaxSeal, impl.MaxFleet, impl.MaxExactly}, []int64{200, 40, 1000, 60, 6})
}

func TestExampleOfCarriers(t *testing.T) {
	stock, wants := []int64{3, 0}, []int64{1, 2}
	moves, code := impl.MovesBack(stock, wants)
	check(t, "MovesBack", []any{moves, code}, []any{[]impl.Move{move(0, 1, 2)}, int64(impl.OK)})
	moves, cost, code := impl.BestMoves(stock, wants, equalCosts(2, 7))
	check(t, "BestMoves", []any{moves, cost, code}, []any{[]impl.Move{move(0, 1, 2)}, int64(14), int64(impl.OK)})
	left, code := impl.SendCarriers(stock, moves[0])
	check(t, "SendCarriers", []any{left, code}, []any{wants, int64(impl.OK)})
}

func TestValidStock(t *testing.T) {
	for _, stock := range cornerStocks() {
		check(t, fmt.Sprint(stock), impl.ValidStock(stock), true)
	}
	for _, stock := range invalidStocks() {
		check(t, brief(stock), impl.ValidStock(stock), false)
	}
	for stations := range 13 {
		check(t, fmt.Sprint(stations), impl.ValidStock(make([]int64, stations)), 2 <= stations && stations <= 10)
	}
	for number := int64(-3); number < 205; number++ {
		check(t, fmt.Sprint(number), impl.ValidStock([]int64{0, number, 0}), 0 <= number && number <= 200)
		check(t, fmt.Sprint(number), impl.ValidStock([]int64{number, 150}), 0 <= number && number <= 50)
	}
}

func TestSameMoves(t *testing.T) {
	lists := [][]impl.Move{
		nil, {{}}, {move(0, 1, 1)}, {move(1, 0, 1)}, {move(0, 1, 2)}, {move(0, 2, 1)}, {move(2, 1, 1)}, {move(0, 1, 1), move(0, 1, 1)}, {move(0, 1, 1), move(1, 0, 1)}, {move(1, 0, 1), move(0, 1, 1)},
		{move(-1, -1, -1)}, {move(math.MinInt64, 0, math.MaxInt64)}, slices.Repeat([]impl.Move{move(0, 1, 1)}, 40), slices.Repeat([]impl.Move{move(0, 1, 1)}, 41),
	}
	for i, a := range lists {
		for j, b := range lists {
			check(t, fmt.Sprint(a, b), impl.SameMoves(a, slices.Clone(b)), i == j)
		}
	}
	check(t, "nil and empty", []bool{impl.SameMoves(nil, []impl.Move{}), impl.SameMoves([]impl.Move{}, nil)}, []bool{true, true})
}

func TestSendCarriers(t *testing.T) {
	for _, c := range []struct {
		stock []int64
		m     impl.Move
		want  []int64
	}{
		{[]int64{3, 0}, move(0, 1, 2), []int64{1, 2}}, {[]int64{3, 0}, move(0, 1, 1), []int64{2, 1}}, {[]int64{0, 1}, move(1, 0, 1), []int64{1, 0}},
		// All that the station has, and one more.
		{[]int64{3, 0}, move(0, 1, 3), []int64{0, 3}}, {[]int64{3, 0}, move(0, 1, 4), nil}, {[]int64{3, 9}, move(0, 1, 4), nil}, {[]int64{3, 4}, move(1, 0, 4), []int64{7, 0}}, {[]int64{3, 4}, move(1, 0, 5), nil},
		// A station without carriers has none for others, but takes some.
		{[]int64{3, 0}, move(1, 0, 1), nil}, {[]int64{0, 0}, move(0, 1, 1), nil}, {[]int64{0, 0}, move(1, 0, 200), nil}, {[]int64{2, 0, 5}, move(2, 1, 5), []int64{2, 5, 0}},
		{[]int64{200, 0}, move(0, 1, 200), []int64{0, 200}}, {[]int64{199, 1}, move(0, 1, 200), nil}, {[]int64{199, 1}, move(0, 1, 199), []int64{0, 200}},
		{slices.Repeat([]int64{20}, 10), move(9, 0, 20), []int64{40, 20, 20, 20, 20, 20, 20, 20, 20, 0}}, {slices.Repeat([]int64{20}, 10), move(4, 5, 1), []int64{20, 20, 20, 20, 19, 21, 20, 20, 20, 20}},
	} {
		wantCode := int64(impl.OK)
		if c.want == nil {
			wantCode = impl.ErrState
		}
		left, code := impl.SendCarriers(c.stock, c.m)
		check(t, fmt.Sprint(c), code, wantCode)
		check(t, fmt.Sprint(c), left, c.want)
	}
}

func TestSendAll(t *testing.T) {
	there, back := move(0, 1, 2), move(1, 0, 2)
	for _, c := range []struct {
		stock []int64
		moves []impl.Move
		want  []int64
		at    int64
	}{
		{[]int64{3, 0}, nil, []int64{3, 0}, -1}, {[]int64{0, 0}, []impl.Move{}, []int64{0, 0}, -1}, {[]int64{3, 0}, []impl.Move{there}, []int64{1, 2}, -1},
		// A move that is not possible in front of, between and behind ones that are; none behind it is made.
		{[]int64{3, 0}, []impl.Move{back, there, there}, []int64{3, 0}, 0}, {[]int64{3, 0}, []impl.Move{there, there, back}, []int64{1, 2}, 1}, {[]int64{3, 0}, []impl.Move{there, back, there, there}, []int64{1, 2}, 3},
		{[]int64{3, 0}, []impl.Move{there, back, there}, []int64{1, 2}, -1}, {[]int64{3, 0}, []impl.Move{move(0, 1, 4), there}, []int64{3, 0}, 0}, {[]int64{0, 0}, []impl.Move{there}, []int64{0, 0}, 0},
		// A move may be possible only by the ones before it.
		{[]int64{3, 0, 0}, []impl.Move{move(0, 1, 3), move(1, 2, 3), move(2, 0, 3)}, []int64{3, 0, 0}, -1}, {[]int64{3, 0, 0}, []impl.Move{move(1, 2, 3), move(0, 1, 3)}, []int64{3, 0, 0}, 0},
		{[]int64{3, 1, 0}, []impl.Move{move(0, 1, 3), move(1, 2, 4), move(1, 2, 1)}, []int64{0, 0, 4}, 2}, {[]int64{200, 0}, []impl.Move{move(0, 1, 200), move(1, 0, 200)}, []int64{200, 0}, -1},
		// 40 moves; the last one may be not possible.
		{[]int64{40, 0}, slices.Repeat([]impl.Move{move(0, 1, 1)}, 40), []int64{0, 40}, -1}, {[]int64{39, 0}, slices.Repeat([]impl.Move{move(0, 1, 1)}, 40), []int64{0, 39}, 39},
		{slices.Repeat([]int64{20}, 10), slices.Repeat([]impl.Move{move(3, 8, 1), move(8, 3, 2)}, 20), append(slices.Repeat([]int64{20}, 3), 40, 20, 20, 20, 20, 0, 20), -1},
	} {
		left, at, code := impl.SendAll(c.stock, c.moves)
		check(t, fmt.Sprint(c), []any{left, at, code}, []any{c.want, c.at, int64(impl.OK)})
	}
}

func TestShortStations(t *testing.T) {
	for _, c := range []struct{ stock, wants, want []int64 }{
		{[]int64{3, 0}, []int64{1, 2}, []int64{0, 2}}, {[]int64{3, 0}, []int64{0, 0}, []int64{0, 0}}, {[]int64{3, 0}, []int64{3, 0}, []int64{0, 0}}, {[]int64{3, 0}, []int64{4, 1}, []int64{1, 1}},
		{[]int64{0, 0}, []int64{200, 200}, []int64{200, 200}}, {[]int64{200, 0}, []int64{200, 200}, []int64{0, 200}}, {[]int64{0, 200}, []int64{1, 199}, []int64{1, 0}},
		{[]int64{1, 5, 0, 2}, []int64{2, 2, 2, 2}, []int64{1, 0, 2, 0}}, {make([]int64, 10), slices.Repeat([]int64{200}, 10), slices.Repeat([]int64{200}, 10)}, {slices.Repeat([]int64{20}, 10), counted(10), make([]int64, 10)},
	} {
		short, code := impl.ShortStations(c.stock, c.wants)
		check(t, fmt.Sprint(c), []any{short, code}, []any{c.want, int64(impl.OK)})
	}
}

func TestMovesBack(t *testing.T) {
	for _, c := range []struct {
		stock, wants []int64
		want         []impl.Move
	}{
		{[]int64{3, 0}, []int64{1, 2}, []impl.Move{move(0, 1, 2)}}, {[]int64{0, 3}, []int64{2, 1}, []impl.Move{move(1, 0, 2)}},
		// Wants that are all met, with carriers to spare or without.
		{[]int64{3, 0}, []int64{0, 0}, nil}, {[]int64{3, 0}, []int64{3, 0}, nil}, {[]int64{0, 0}, []int64{0, 0}, nil}, {[]int64{3, 0}, []int64{2, 0}, nil}, {slices.Repeat([]int64{20}, 10), slices.Repeat([]int64{20}, 10), nil},
		// Wants that are met exactly with all carriers, and with some left.
		{[]int64{3, 0}, []int64{0, 3}, []impl.Move{move(0, 1, 3)}}, {[]int64{200, 0}, []int64{0, 200}, []impl.Move{move(0, 1, 200)}}, {[]int64{5, 0}, []int64{0, 3}, []impl.Move{move(0, 1, 3)}},
		{[]int64{4, 0, 0}, []int64{0, 1, 3}, []impl.Move{move(0, 1, 1), move(0, 2, 3)}}, {[]int64{5, 0, 0}, []int64{0, 1, 3}, []impl.Move{move(0, 1, 1), move(0, 2, 3)}},
		// One station after the other gives what it can, and only so much as is still missing.
		{[]int64{0, 3, 4}, []int64{5, 0, 0}, []impl.Move{move(1, 0, 3), move(2, 0, 2)}}, {[]int64{0, 3, 4}, []int64{7, 0, 0}, []impl.Move{move(1, 0, 3), move(2, 0, 4)}}, {[]int64{0, 5, 4}, []int64{5, 0, 0}, []impl.Move{move(1, 0, 5)}},
		{[]int64{4, 0, 5}, []int64{2, 4, 3}, []impl.Move{move(0, 1, 2), move(2, 1, 2)}}, {[]int64{4, 0, 5}, []int64{0, 4, 0}, []impl.Move{move(0, 1, 4)}},
		{[]int64{0, 0, 5, 5}, []int64{3, 4, 0, 0}, []impl.Move{move(2, 0, 3), move(2, 1, 2), move(3, 1, 2)}}, {[]int64{0, 6, 0, 2}, []int64{2, 1, 3, 0}, []impl.Move{move(1, 0, 2), move(1, 2, 3)}},
		{[]int64{1, 1, 1, 9, 0, 1}, []int64{2, 0, 2, 3, 3, 2}, []impl.Move{move(1, 0, 1), move(3, 2, 1), move(3, 4, 3), move(3, 5, 1)}},
		{append(slices.Repeat([]int64{0}, 9), 200), append(slices.Repeat([]int64{1}, 9), 191), []impl.Move{move(9, 0, 1), move(9, 1, 1), move(9, 2, 1), move(9, 3, 1), move(9, 4, 1), move(9, 5, 1), move(9, 6, 1), move(9, 7, 1), move(9, 8, 1)}},
	} {
		moves, code := impl.MovesBack(c.stock, c.wants)
		check(t, fmt.Sprint(c), code, int64(impl.OK))
		check(t, fmt.Sprint(c), moves, c.want)
	}
}

// costsFrom are 1000, but for some links: from, to and cost.
func costsFrom(stations int, links ...[3]int64) [][]int64 {
	costs := equalCosts(stations, 1000)
	for _, link := range links {
		costs[link[0]][link[1]] = link[2]
	}
	return costs
}

func TestBestMoves(t *testing.T) {
	for _, c := range []struct {
		stock, wants []int64
		costs        [][]int64
		want         []impl.Move
		cost         int64
	}{
		{[]int64{3, 0}, []int64{1, 2}, equalCosts(2, 7), []impl.Move{move(0, 1, 2)}, 14}, {[]int64{4, 4, 0}, []int64{1, 3, 3}, [][]int64{{0, 9, 5}, {9, 0, 1}, {5, 1, 0}}, []impl.Move{move(0, 2, 2), move(1, 2, 1)}, 11},
		// No moves where all wants are met.
		{[]int64{3, 0}, []int64{3, 0}, equalCosts(2, 7), nil, 0}, {[]int64{0, 0}, []int64{0, 0}, equalCosts(2, 0), nil, 0}, {slices.Repeat([]int64{20}, 10), slices.Repeat([]int64{19}, 10), equalCosts(10, 0), nil, 0},
		// Costs of 0 and of 1000; exactly 6 missing carriers.
		{[]int64{6, 0}, []int64{0, 6}, equalCosts(2, 0), []impl.Move{move(0, 1, 6)}, 0}, {[]int64{6, 0}, []int64{0, 6}, equalCosts(2, 1000), []impl.Move{move(0, 1, 6)}, 6000}, {[]int64{200, 0}, []int64{194, 6}, equalCosts(2, 1), []impl.Move{move(0, 1, 6)}, 6},
		{[]int64{0, 6}, []int64{6, 0}, costsFrom(2, [3]int64{1, 0, 1}), []impl.Move{move(1, 0, 6)}, 6}, {[]int64{0, 6}, []int64{6, 0}, costsFrom(2, [3]int64{0, 1, 1}), []impl.Move{move(1, 0, 6)}, 6000},
		// The cheapest station gives all that it has more than it wants, but no more.
		{[]int64{9, 3, 0}, []int64{0, 1, 5}, costsFrom(3, [3]int64{1, 2, 3}, [3]int64{0, 2, 10}), []impl.Move{move(0, 2, 3), move(1, 2, 2)}, 36}, {[]int64{9, 3, 0}, []int64{0, 3, 5}, costsFrom(3, [3]int64{1, 2, 0}), []impl.Move{move(0, 2, 5)}, 5000},
		// The station that is cheapest for the first one is needed for the second one.
		{[]int64{0, 0, 1, 1}, []int64{1, 1, 0, 0}, costsFrom(4, [3]int64{2, 0, 1}, [3]int64{3, 0, 2}, [3]int64{2, 1, 1}, [3]int64{3, 1, 5}), []impl.Move{move(3, 0, 1), move(2, 1, 1)}, 3},
		{[]int64{0, 0, 0, 1, 1, 1}, []int64{1, 1, 1, 0, 0, 0}, costsFrom(6, [3]int64{3, 0, 1}, [3]int64{4, 0, 2}, [3]int64{3, 1, 1}, [3]int64{4, 1, 2}, [3]int64{5, 1, 9}, [3]int64{3, 2, 1}), []impl.Move{move(4, 0, 1), move(5, 1, 1), move(3, 2, 1)}, 12},
		// The last one can come cheaply only if all others come from other stations, in whatever order these must be changed.
		{[]int64{0, 0, 0, 0, 1, 1, 1, 1}, []int64{1, 1, 1, 1, 0, 0, 0, 0}, costsFrom(8, [3]int64{4, 0, 0}, [3]int64{6, 0, 0}, [3]int64{5, 1, 0}, [3]int64{7, 1, 0}, [3]int64{5, 2, 0}, [3]int64{6, 2, 0}, [3]int64{4, 3, 0}), []impl.Move{move(6, 0, 1), move(7, 1, 1), move(5, 2, 1), move(4, 3, 1)}, 0},
		{append(make([]int64, 5), 1, 1, 1, 1, 1), append([]int64{1, 1, 1, 1, 1}, make([]int64, 5)...), costsFrom(10, [3]int64{5, 0, 0}, [3]int64{9, 0, 0}, [3]int64{5, 1, 0}, [3]int64{6, 1, 0}, [3]int64{6, 2, 0}, [3]int64{7, 2, 0}, [3]int64{7, 3, 0}, [3]int64{8, 3, 0}, [3]int64{8, 4, 0}), []impl.Move{move(9, 0, 1), move(5, 1, 1), move(6, 2, 1), move(7, 3, 1), move(8, 4, 1)}, 0},
		// A way over a third station is no move, however cheap it is.
		{[]int64{1, 0, 0}, []int64{0, 1, 0}, [][]int64{{0, 9, 1}, {1, 0, 1}, {1, 1, 0}}, []impl.Move{move(0, 1, 1)}, 9}, {[]int64{1, 1, 0}, []int64{0, 1, 1}, [][]int64{{0, 1, 9}, {1, 0, 1}, {1, 1, 0}}, []impl.Move{move(0, 2, 1)}, 9},
	} {
		moves, cost, code := impl.BestMoves(c.stock, c.wants, c.costs)
		check(t, fmt.Sprint(c), []int64{cost, code}, []int64{c.cost, impl.OK})
		check(t, fmt.Sprint(c), moves, c.want)
	}
}

// Several lists of moves with the same sum: the first one is that with the first stations.
func TestBestMovesOfEqualSums(t *testing.T) {
	ten := append([]int64{0, 0, 0}, 6, 6, 6, 6, 6, 6, 6)
	for _, c := range []struct {
		stock, wants []int64
		costs        [][]int64
		want         []impl.Move
		cost         int64
	}{
		{[]int64{2, 2, 0}, []int64{0, 0, 3}, equalCosts(3, 5), []impl.Move{move(0, 2, 2), move(1, 2, 1)}, 15}, {[]int64{2, 2, 0}, []int64{0, 0, 2}, equalCosts(3, 0), []impl.Move{move(0, 2, 2)}, 0},
		{[]int64{0, 2, 2, 0}, []int64{2, 0, 0, 2}, equalCosts(4, 5), []impl.Move{move(1, 0, 2), move(2, 3, 2)}, 20}, {[]int64{1, 0, 1, 0, 1}, []int64{0, 1, 0, 1, 0}, equalCosts(5, 1000), []impl.Move{move(0, 1, 1), move(2, 3, 1)}, 2000},
		// Both pairs cost 3: the first station of the first one decides.
		{[]int64{0, 0, 1, 1}, []int64{1, 1, 0, 0}, costsFrom(4, [3]int64{2, 0, 1}, [3]int64{3, 1, 2}, [3]int64{3, 0, 0}, [3]int64{2, 1, 3}), []impl.Move{move(2, 0, 1), move(3, 1, 1)}, 3},
		{[]int64{0, 0, 1, 1}, []int64{1, 1, 0, 0}, costsFrom(4, [3]int64{2, 0, 2}, [3]int64{3, 1, 2}, [3]int64{3, 0, 0}, [3]int64{2, 1, 3}), []impl.Move{move(3, 0, 1), move(2, 1, 1)}, 3},
		// Stations for one that is short never fall.
		{[]int64{0, 1, 1, 1}, []int64{3, 0, 0, 0}, equalCosts(4, 3), []impl.Move{move(1, 0, 1), move(2, 0, 1), move(3, 0, 1)}, 9}, {[]int64{0, 9, 1, 1}, []int64{3, 0, 0, 0}, costsFrom(4, [3]int64{2, 0, 1}, [3]int64{3, 0, 1}), []impl.Move{move(1, 0, 1), move(2, 0, 1), move(3, 0, 1)}, 1002},
		{[]int64{0, 1, 9, 0}, []int64{2, 0, 0, 2}, costsFrom(4, [3]int64{1, 0, 1}, [3]int64{1, 3, 1}, [3]int64{2, 0, 4}, [3]int64{2, 3, 4}), []impl.Move{move(1, 0, 1), move(2, 0, 1), move(2, 3, 2)}, 13},
		// Moves are joined only where both stations are the same.
		{[]int64{6, 0, 0, 0, 0, 0, 0}, []int64{0, 1, 1, 1, 1, 1, 1}, equalCosts(7, 2), []impl.Move{move(0, 1, 1), move(0, 2, 1), move(0, 3, 1), move(0, 4, 1), move(0, 5, 1), move(0, 6, 1)}, 12},
		// The greatest numbers of stations, with the least ranks.
		{[]int64{0, 0, 0, 0, 0, 0, 0, 0, 6, 6}, []int64{1, 1, 1, 1, 1, 1, 0, 0, 0, 0}, equalCosts(10, 0), []impl.Move{move(8, 0, 1), move(8, 1, 1), move(8, 2, 1), move(8, 3, 1), move(8, 4, 1), move(8, 5, 1)}, 0},
		{[]int64{0, 0, 0, 0, 0, 0, 0, 0, 1, 5}, []int64{1, 1, 1, 1, 1, 1, 0, 0, 0, 0}, equalCosts(10, 1000), []impl.Move{move(8, 0, 1), move(9, 1, 1), move(9, 2, 1), move(9, 3, 1), move(9, 4, 1), move(9, 5, 1)}, 6000},
		{ten, []int64{2, 2, 2, 0, 0, 0, 0, 0, 0, 0}, equalCosts(10, 4), []impl.Move{move(3, 0, 2), move(3, 1, 2), move(3, 2, 2)}, 24}, {ten, []int64{2, 2, 2, 5, 5, 5, 5, 5, 5, 5}, equalCosts(10, 4), []impl.Move{move(3, 0, 1), move(4, 0, 1), move(5, 1, 1), move(6, 1, 1), move(7, 2, 1), move(8, 2, 1)}, 24},
		// A cheaper sum goes before all first stations: from the station 9 by 1.
		{[]int64{6, 0, 0, 0, 0, 0, 0, 0, 0, 6}, []int64{0, 1, 1, 1, 1, 1, 1, 0, 0, 0}, costsFrom(10, [3]int64{9, 1, 999}), []impl.Move{move(9, 1, 1), move(0, 2, 1), move(0, 3, 1), move(0, 4, 1), move(0, 5, 1), move(0, 6, 1)}, 5999},
	} {
		moves, cost, code := impl.BestMoves(c.stock, c.wants, c.costs)
		check(t, fmt.Sprint(c), []int64{cost, code}, []int64{c.cost, impl.OK})
		check(t, fmt.Sprint(c), moves, c.want)
	}
}

func TestCostOfMoves(t *testing.T) {
	three := [][]int64{{0, 9, 5}, {8, 0, 1}, {6, 7, 0}}
	for _, c := range []struct {
		moves []impl.Move
		costs [][]int64
		want  int64
	}{
		{nil, three, 0}, {[]impl.Move{}, equalCosts(10, 1000), 0}, {[]impl.Move{move(0, 2, 2), move(1, 2, 1)}, three, 11}, {[]impl.Move{move(0, 1, 1)}, three, 9}, {[]impl.Move{move(1, 0, 1)}, three, 8}, {[]impl.Move{move(2, 1, 200)}, three, 1400},
		{[]impl.Move{move(0, 1, 2), move(0, 1, 2), move(2, 0, 3)}, three, 54}, {slices.Repeat([]impl.Move{move(9, 8, 200)}, 40), equalCosts(10, 1000), 8000000}, {slices.Repeat([]impl.Move{move(1, 0, 1)}, 40), equalCosts(2, 0), 0},
		{[]impl.Move{move(0, 1, 200)}, equalCosts(2, 1000), 200000},
	} {
		sum, code := impl.CostOfMoves(c.moves, c.costs)
		check(t, fmt.Sprint(c), []int64{sum, code}, []int64{c.want, impl.OK})
	}
}

// exampleSeals have a worn one behind two others.
func exampleSeals() []impl.Seal { return []impl.Seal{seal(3, 6), seal(2, 5), seal(4, 4)} }

func wornFleet(count int) []impl.Seal { return slices.Repeat([]impl.Seal{seal(7, 7)}, count) }

// cornerSeals are valid, and lie at the limits.
func cornerSeals() [][]impl.Seal {
	return [][]impl.Seal{
		nil, {}, {seal(0, 1)}, {seal(1, 1)}, {seal(0, 1000)}, {seal(1000, 1000)}, {seal(999, 1000)}, {seal(0, 999)}, {seal(999, 999)}, exampleSeals(),
		slices.Repeat([]impl.Seal{seal(0, 1)}, 60), slices.Repeat([]impl.Seal{seal(1, 2)}, 59), wornFleet(60), {seal(1, 1), seal(0, 1), seal(1000, 1000), seal(0, 1000)},
	}
}

func invalidSeals() [][]impl.Seal {
	list := [][]impl.Seal{slices.Repeat([]impl.Seal{seal(0, 1)}, 61), wornFleet(61), wornFleet(100000), make([]impl.Seal, 1), make([]impl.Seal, 61)}
	for _, wrong := range []impl.Seal{
		{}, seal(-1, 1), seal(2, 1), seal(1, 0), seal(0, 0), seal(0, -1), seal(-1, -1), seal(-2, -1), seal(0, 1001), seal(1001, 1001), seal(1001, 1000), seal(5, 4), seal(-1, 1000),
		seal(math.MinInt64, 1), seal(math.MaxInt64, 1), seal(0, math.MinInt64), seal(0, math.MaxInt64), seal(math.MinInt64, math.MinInt64), seal(math.MaxInt64, math.MaxInt64),
	} {
		list = append(list, []impl.Seal{wrong}, []impl.Seal{wrong, seal(0, 1)}, []impl.Seal{seal(0, 1), wrong, seal(1, 1)}, append(wornFleet(59), wrong))
	}
	return list
}

func TestValidSeals(t *testing.T) {
	for _, list := range cornerSeals() {
		check(t, fmt.Sprint(list), impl.ValidSeals(list), true)
	}
	for _, list := range invalidSeals() {
		check(t, brief(list), impl.ValidSeals(list), false)
	}
	for most := int64(-2); most < 1004; most++ {
		for runs := most - 2; runs < most+3; runs++ {
			check(t, fmt.Sprint(runs, most), impl.ValidSeals([]impl.Seal{seal(runs, most)}), 1 <= most && most <= 1000 && 0 <= runs && runs <= most)
		}
	}
	for count := range 63 {
		check(t, fmt.Sprint(count), impl.ValidSeals(wornFleet(count)), count <= 60)
	}
}

func TestRunCarrier(t *testing.T) {
	for _, c := range []struct {
		list []impl.Seal
		k    int64
		want []impl.Seal
	}{
		{exampleSeals(), 0, []impl.Seal{seal(4, 6), seal(2, 5), seal(4, 4)}}, {exampleSeals(), 1, []impl.Seal{seal(3, 6), seal(3, 5), seal(4, 4)}}, {exampleSeals(), 2, nil},
		{[]impl.Seal{seal(0, 1)}, 0, []impl.Seal{seal(1, 1)}}, {[]impl.Seal{seal(1, 1)}, 0, nil}, {[]impl.Seal{seal(999, 1000)}, 0, []impl.Seal{seal(1000, 1000)}}, {[]impl.Seal{seal(1000, 1000)}, 0, nil}, {[]impl.Seal{seal(998, 999)}, 0, []impl.Seal{seal(999, 999)}},
		{wornFleet(60), 59, nil}, {wornFleet(60), 0, nil}, {append(wornFleet(59), seal(0, 1)), 59, append(wornFleet(59), seal(1, 1))}, {append(wornFleet(59), seal(0, 1)), 58, nil},
	} {
		wantCode := int64(impl.OK)
		if c.want == nil {
			wantCode = impl.ErrState
		}
		run, code := impl.RunCarrier(c.list, c.k)
		check(t, fmt.Sprint(c), code, wantCode)
		check(t, fmt.Sprint(c), run, c.want)
	}
}

func TestNextCarrier(t *testing.T) {
	for _, c := range []struct {
		list []impl.Seal
		want int64
	}{
		{exampleSeals(), 1}, {[]impl.Seal{seal(0, 1)}, 0}, {[]impl.Seal{seal(999, 1000)}, 0}, {[]impl.Seal{seal(0, 1), seal(0, 1000)}, 0}, {[]impl.Seal{seal(0, 1000), seal(0, 1)}, 0}, {[]impl.Seal{seal(1, 1000), seal(0, 1)}, 1},
		// Equal shares, with the same numbers and with others.
		{[]impl.Seal{seal(2, 3), seal(1, 2), seal(1, 2)}, 1}, {[]impl.Seal{seal(2, 4), seal(1, 2), seal(3, 6)}, 0}, {[]impl.Seal{seal(1, 2), seal(2, 4), seal(500, 1000)}, 0}, {[]impl.Seal{seal(501, 1000), seal(500, 1000), seal(1, 2)}, 1},
		// The share, not the runs nor what is left, decides.
		{[]impl.Seal{seal(1, 2), seal(100, 1000)}, 1}, {[]impl.Seal{seal(400, 1000), seal(0, 1)}, 1}, {[]impl.Seal{seal(1, 3), seal(2, 7)}, 1}, {[]impl.Seal{seal(333, 1000), seal(1, 3)}, 0}, {[]impl.Seal{seal(1, 3), seal(334, 1000)}, 0}, {[]impl.Seal{seal(998, 1000), seal(997, 999)}, 1},
		// Worn ones are passed over, in front and behind.
		{[]impl.Seal{seal(1, 1), seal(999, 1000), seal(5, 5)}, 1}, {append(wornFleet(59), seal(6, 7)), 59}, {append([]impl.Seal{seal(6, 7)}, wornFleet(59)...), 0}, {slices.Repeat([]impl.Seal{seal(1, 2)}, 60), 0},
	} {
		k, code := impl.NextCarrier(c.list)
		check(t, fmt.Sprint(c), []int64{k, code}, []int64{c.want, impl.OK})
	}
}

func TestWornSealsAndRunsLeft(t *testing.T) {
	for _, c := range []struct {
		list []impl.Seal
		worn []int64
		left int64
	}{
		{nil, nil, 0}, {[]impl.Seal{}, nil, 0}, {exampleSeals(), []int64{2}, 6}, {[]impl.Seal{seal(0, 1)}, nil, 1}, {[]impl.Seal{seal(1, 1)}, []int64{0}, 0}, {[]impl.Seal{seal(1000, 1000), seal(999, 1000), seal(999, 999)}, []int64{0, 2}, 1},
		{wornFleet(60), counted(60), 0}, {slices.Repeat([]impl.Seal{seal(0, 1000)}, 60), nil, 60000}, {slices.Concat(wornFleet(3), []impl.Seal{seal(0, 9)}, wornFleet(2)), []int64{0, 1, 2, 4, 5}, 9},
	} {
		worn, code := impl.WornSeals(c.list)
		check(t, fmt.Sprint(c), code, int64(impl.OK))
		check(t, fmt.Sprint(c), worn, c.worn)
		left, code := impl.RunsLeft(c.list)
		check(t, fmt.Sprint(c), []int64{left, code}, []int64{c.left, impl.OK})
	}
}

// stockArgs are arguments of the functions of stock and moves.
type stockArgs struct {
	stock, wants []int64
	costs        [][]int64
	moves        []impl.Move
	m            impl.Move
}

// stockCalls are the functions of stock and moves; each returns its results, the code last.
func stockCalls(x stockArgs) map[string][]any {
	calls := map[string][]any{}
	put := func(name string, results ...any) { calls[name] = results }
	left, code := impl.SendCarriers(x.stock, x.m)
	put("SendCarriers", left, code)
	left, at, code := impl.SendAll(x.stock, x.moves)
	put("SendAll", left, at, code)
	short, code := impl.ShortStations(x.stock, x.wants)
	put("ShortStations", short, code)
	moves, code := impl.MovesBack(x.stock, x.wants)
	put("MovesBack", moves, code)
	moves, cost, code := impl.BestMoves(x.stock, x.wants, x.costs)
	put("BestMoves", moves, cost, code)
	cost, code = impl.CostOfMoves(x.moves, x.costs)
	put("CostOfMoves", cost, code)
	return calls
}

var (
	wantCalls     = []string{"ShortStations", "MovesBack", "BestMoves"}
	stocksCalls   = append([]string{"SendCarriers", "SendAll"}, wantCalls...)
	allStockCalls = append([]string{"CostOfMoves"}, stocksCalls...)
	allSealCalls  = []string{"RunCarrier", "NextCarrier", "WornSeals", "RunsLeft"}
)

// sealCalls are the functions of seals.
func sealCalls(list []impl.Seal, k int64) map[string][]any {
	calls := map[string][]any{}
	put := func(name string, results ...any) { calls[name] = results }
	run, code := impl.RunCarrier(list, k)
	put("RunCarrier", run, code)
	next, code := impl.NextCarrier(list)
	put("NextCarrier", next, code)
	worn, code := impl.WornSeals(list)
	put("WornSeals", worn, code)
	left, code := impl.RunsLeft(list)
	put("RunsLeft", left, code)
	return calls
}

// plainStockArgs are arguments with which no function has an error.
func plainStockArgs() stockArgs {
	return stockArgs{stock: []int64{3, 0}, wants: []int64{1, 2}, costs: equalCosts(2, 7), moves: []impl.Move{move(0, 1, 1)}, m: move(0, 1, 1)}
}

func TestPlainStockCalls(t *testing.T) {
	calls := stockCalls(plainStockArgs())
	for _, name := range allStockCalls {
		results := calls[name]
		check(t, name, results[len(results)-1], int64(impl.OK))
	}
	for name, results := range sealCalls(exampleSeals(), 0) {
		check(t, name, results[len(results)-1], int64(impl.OK))
	}
}

// What is no stock goes before everything else, and so do costs that are none of any stations where there is no stock.
func TestInvalidStocks(t *testing.T) {
	for _, stock := range invalidStocks() {
		x := plainStockArgs()
		x.stock = stock
		checkErrorResults(t, stockCalls(x), impl.ErrInvalid, stocksCalls...)
		checkErrorResults(t, stockCalls(stockArgs{stock: stock}), impl.ErrInvalid, allStockCalls...)
		// Wants and costs for as many stations, and wants that are too many.
		x.wants, x.costs, x.moves, x.m = slices.Repeat([]int64{200}, len(stock)), equalCosts(min(len(stock), 20), 1), wrongMoveLists(2)[0], move(0, 0, 0)
		checkErrorResults(t, stockCalls(x), impl.ErrInvalid, stocksCalls...)
	}
	for _, costs := range slices.Concat(otherCosts(), wrongCosts(2), wrongCosts(10)) {
		for _, moves := range [][]impl.Move{nil, {move(0, 1, 1)}, {move(0, 9, 0), move(3, 3, -1)}, wrongMoveLists(2)[0]} {
			checkErrorResults(t, stockCalls(stockArgs{costs: costs, moves: moves}), impl.ErrInvalid, "CostOfMoves")
		}
	}
}

func TestMovesOutOfRange(t *testing.T) {
	for _, stock := range cornerStocks() {
		x := stockArgs{stock: stock, costs: equalCosts(len(stock), 5)}
		for _, m := range wrongMoves(int64(len(stock))) {
			x.m = m
			checkErrorResults(t, stockCalls(x), impl.ErrRange, "SendCarriers")
		}
		for _, moves := range wrongMoveLists(int64(len(stock))) {
			x.moves = moves
			checkErrorResults(t, stockCalls(x), impl.ErrRange, "SendAll", "CostOfMoves")
		}
	}
}

// Wants and costs that are none go before wants that are too many.
func TestWantsAndCostsOutOfRange(t *testing.T) {
	for _, stock := range cornerStocks() {
		x := stockArgs{stock: stock}
		for _, wants := range wrongWants(len(stock)) {
			x.wants, x.costs = wants, equalCosts(len(stock), 5)
			checkErrorResults(t, stockCalls(x), impl.ErrRange, wantCalls...)
			x.costs = nil
			checkErrorResults(t, stockCalls(x), impl.ErrRange, wantCalls...)
		}
		for _, costs := range append(otherCosts(), wrongCosts(len(stock))...) {
			x.costs = costs
			for _, wants := range [][]int64{stock, make([]int64, len(stock)), slices.Repeat([]int64{200}, len(stock))} {
				x.wants = wants
				checkErrorResults(t, stockCalls(x), impl.ErrRange, "BestMoves")
			}
		}
	}
}

// One carrier more than there are is too many, also where too many are missing.
func TestFullWants(t *testing.T) {
	for _, c := range []struct{ stock, wants []int64 }{
		{[]int64{3, 0}, []int64{2, 2}}, {[]int64{3, 0}, []int64{4, 0}}, {[]int64{3, 0}, []int64{0, 4}}, {[]int64{0, 0}, []int64{0, 1}}, {[]int64{9, 0}, []int64{0, 10}}, {[]int64{200, 0}, []int64{1, 200}}, {[]int64{200, 0}, []int64{200, 200}},
		{[]int64{4, 4, 0}, []int64{3, 3, 3}}, {[]int64{6, 0}, []int64{0, 7}}, {[]int64{5, 0}, []int64{0, 6}}, {make([]int64, 10), slices.Repeat([]int64{200}, 10)}, {slices.Repeat([]int64{20}, 10), append(slices.Repeat([]int64{20}, 9), 21)},
	} {
		x := stockArgs{stock: c.stock, wants: c.wants, costs: equalCosts(len(c.stock), 1)}
		checkErrorResults(t, stockCalls(x), impl.ErrFull, "MovesBack", "BestMoves")
		short, code := impl.ShortStations(c.stock, c.wants)
		check(t, fmt.Sprint(c), []any{isZero(short), code}, []any{false, int64(impl.OK)})
	}
}

// 7 missing carriers are too many for BestMoves, but not for MovesBack.
func TestTooManyMissing(t *testing.T) {
	for _, c := range []struct{ stock, wants []int64 }{
		{[]int64{9, 0}, []int64{0, 7}}, {[]int64{7, 0}, []int64{0, 7}}, {[]int64{200, 0}, []int64{193, 7}}, {[]int64{200, 0}, []int64{0, 200}}, {[]int64{9, 0, 0}, []int64{0, 3, 4}}, {[]int64{0, 0, 9}, []int64{1, 6, 0}},
		{[]int64{9, 0, 0, 0, 0, 0, 0, 0}, []int64{0, 1, 1, 1, 1, 1, 1, 1}}, {[]int64{0, 9, 9}, []int64{7, 5, 5}},
	} {
		x := stockArgs{stock: c.stock, wants: c.wants, costs: equalCosts(len(c.stock), 1)}
		checkErrorResults(t, stockCalls(x), impl.ErrState, "BestMoves")
		_, code := impl.MovesBack(c.stock, c.wants)
		check(t, fmt.Sprint(c), code, int64(impl.OK))
	}
}

func TestSealErrors(t *testing.T) {
	numbers := []int64{math.MinInt64, -1, 0, 1, 59, 60, 61, math.MaxInt64}
	for _, list := range invalidSeals() {
		for _, k := range numbers {
			checkErrorResults(t, sealCalls(list, k), impl.ErrInvalid, allSealCalls...)
		}
	}
	for _, list := range cornerSeals() {
		for _, k := range append(numbers, int64(len(list)), int64(len(list))+1) {
			if k < 0 || k >= int64(len(list)) {
				checkErrorResults(t, sealCalls(list, k), impl.ErrRange, "RunCarrier")
			}
		}
	}
	for _, list := range [][]impl.Seal{nil, {}, {seal(1, 1)}, {seal(1000, 1000)}, exampleSeals()[2:], wornFleet(59), wornFleet(60)} {
		checkErrorResults(t, sealCalls(list, 0), impl.ErrNotFound, "NextCarrier")
		for k := range list {
			checkErrorResults(t, sealCalls(list, int64(k)), impl.ErrState, "RunCarrier")
		}
	}
}
