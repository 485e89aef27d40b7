package tests

import (
	"fmt"
	"math/big"
	"math/rand/v2"
	"slices"
	"testing"

	"loop.example/g01046/impl"
)

// stockCase is a stock with what its stations want, and costs between them.
type stockCase struct {
	stock, wants []int64
	costs        [][]int64
}

func (x stockCase) String() string { return fmt.Sprint(x.stock, x.wants, x.costs) }

// drawnCosts have few different numbers, so that many lists of moves have the same sum.
func drawnCosts(r *rand.Rand, stations int) [][]int64 {
	numbers := [][]int64{{7}, {0, 1}, {1, 2, 3}, {0, 1000}, {999, 1000, 1}, {0, 1, 2, 5, 10, 100, 999, 1000}}[r.IntN(6)]
	costs := equalCosts(stations, 0)
	for _, row := range costs {
		for to := range row {
			row[to] = numbers[r.IntN(len(numbers))]
		}
	}
	return costs
}

// drawnStocks have as many missing carriers as are told, at most: they take carriers from what is wanted at some stations, and want more at others.
func drawnStocks(seed uint64, count, missing int) []stockCase {
	r := rand.New(rand.NewPCG(seed, 7))
	var list []stockCase
	for range count {
		stations := 2 + r.IntN(9)
		x := stockCase{stock: make([]int64, stations), wants: make([]int64, stations), costs: drawnCosts(r, stations)}
		short := 1 + r.IntN(stations-1)
		order := r.Perm(stations)
		for _, station := range order {
			x.stock[station] = []int64{0, 0, 1, 3, 10}[r.IntN(5)]
			x.wants[station] = x.stock[station]
		}
		for range r.IntN(missing + 1) {
			x.wants[order[r.IntN(short)]]++
			x.stock[order[short+r.IntN(stations-short)]]++
		}
		for range []int{0, 0, 1, 5, 20}[r.IntN(5)] {
			x.stock[order[short+r.IntN(stations-short)]]++
		}
		list = append(list, x)
	}
	return list
}

// sendBySpec moves carriers one by one, as far as there are any.
func sendBySpec(stock []int64, moves []impl.Move) ([]int64, int64) {
	left := slices.Clone(stock)
	for i, m := range moves {
		before := slices.Clone(left)
		for range m.Many {
			left[m.From]--
			left[m.To]++
			if left[m.From] < 0 {
				return before, int64(i)
			}
		}
	}
	return left, -1
}

// checkMovesBring expects moves between stations that have more than they want and stations that are short, and that these bring all what they want, and to no station more.
func checkMovesBring(t *testing.T, x stockCase, moves []impl.Move) {
	t.Helper()
	for _, m := range moves {
		if x.stock[m.From] <= x.wants[m.From] || x.stock[m.To] >= x.wants[m.To] || m.Many < 1 {
			t.Errorf("%v: the move %v", x, m)
		}
	}
	left, at, code := impl.SendAll(x.stock, moves)
	check(t, x.String(), []int64{at, code}, []int64{-1, impl.OK})
	short, code := impl.ShortStations(left, x.wants)
	check(t, x.String(), []any{short, code}, []any{make([]int64, len(left)), int64(impl.OK)})
	for station, number := range left {
		if x.stock[station] < x.wants[station] {
			check(t, x.String(), number, x.wants[station])
		} else if number < x.wants[station] || number > x.stock[station] {
			t.Errorf("%v: %d carriers are left at %d", x, number, station)
		}
	}
}

// movesBackBySpec takes carriers one by one.
func movesBackBySpec(x stockCase) []impl.Move {
	var moves []impl.Move
	stock := slices.Clone(x.stock)
	for station := range stock {
		for other := range stock {
			many := int64(0)
			for other != station && stock[other] > x.wants[other] && stock[station] < x.wants[station] {
				stock[other]--
				stock[station]++
				many++
			}
			if many > 0 {
				moves = append(moves, move(int64(other), int64(station), many))
			}
		}
	}
	return moves
}

// sourceSearch goes through all lists of stations from which missing carriers come, the first ones first.
type sourceSearch struct {
	x       stockCase
	goals   []int64
	sources []int64
	left    []int64
	best    []int64
	least   int64
}

// extend goes on with the next carrier; cost is that of those before.
func (s *sourceSearch) extend(cost int64) {
	k := len(s.sources)
	if k == len(s.goals) {
		if s.best == nil || cost < s.least {
			s.best, s.least = slices.Clone(s.sources), cost
		}
		return
	}
	for from, left := range s.left {
		if left <= 0 || k > 0 && s.goals[k-1] == s.goals[k] && int64(from) < s.sources[k-1] {
			continue
		}
		s.left[from]--
		s.sources = append(s.sources, int64(from))
		s.extend(cost + s.x.costs[from][s.goals[k]])
		s.sources = s.sources[:k]
		s.left[from]++
	}
}

// bestMovesBySpec joins what follows with the same stations.
func bestMovesBySpec(x stockCase) ([]impl.Move, int64) {
	s := sourceSearch{x: x}
	for station := range x.stock {
		s.left = append(s.left, x.stock[station]-x.wants[station])
		for range x.wants[station] - x.stock[station] {
			s.goals = append(s.goals, int64(station))
		}
	}
	s.extend(0)
	var moves []impl.Move
	for k, from := range s.best {
		last := len(moves) - 1
		if last >= 0 && moves[last].From == from && moves[last].To == s.goals[k] {
			moves[last].Many++
		} else {
			moves = append(moves, move(from, s.goals[k], 1))
		}
	}
	return moves, s.least
}

// Promise 7: moves that are told bring all stations what they want.
func TestMovesBackBringWhatIsWanted(t *testing.T) {
	for _, x := range append(drawnStocks(1, 2000, 6), drawnStocks(2, 2000, 40)...) {
		moves, code := impl.MovesBack(x.stock, x.wants)
		check(t, x.String(), code, int64(impl.OK))
		check(t, x.String(), moves, movesBackBySpec(x))
		checkMovesBring(t, x, moves)
	}
}

// Promise 7: the best moves bring all stations what they want, and cost no more than all others.
func TestNoMovesCostLess(t *testing.T) {
	others := 0
	for _, x := range drawnStocks(3, 4000, 6) {
		moves, cost, code := impl.BestMoves(x.stock, x.wants, x.costs)
		want, least := bestMovesBySpec(x)
		check(t, x.String(), []int64{cost, code}, []int64{least, impl.OK})
		check(t, x.String(), moves, want)
		checkMovesBring(t, x, moves)
		back, _ := impl.MovesBack(x.stock, x.wants)
		sum, _ := impl.CostOfMoves(back, x.costs)
		told, code := impl.CostOfMoves(moves, x.costs)
		check(t, x.String(), []int64{told, code}, []int64{cost, impl.OK})
		if sum < cost {
			t.Errorf("%v: %v cost less than %v", x, back, moves)
		}
		if sum > cost {
			others++
		}
	}
	if others < 500 {
		t.Errorf("only %d best moves are cheaper than moves back", others)
	}
}

// All costs up to 2 between two stations that are short and two others.
func TestBestMovesOfAllSmallCosts(t *testing.T) {
	for number := range 81 {
		for _, wants := range [][]int64{{1, 1, 1, 1}, {1, 2, 0, 1}, {2, 2, 0, 0}} {
			x := stockCase{stock: []int64{0, 0, 2, 2}, wants: wants, costs: equalCosts(4, 1000)}
			for k, rest := 0, number; k < 4; k, rest = k+1, rest/3 {
				x.costs[2+k/2][k%2] = int64(rest % 3)
			}
			moves, cost, code := impl.BestMoves(x.stock, x.wants, x.costs)
			want, least := bestMovesBySpec(x)
			check(t, x.String(), []any{moves, cost, code}, []any{want, least, int64(impl.OK)})
		}
	}
}

func TestCodesOfDrawnWants(t *testing.T) {
	r := rand.New(rand.NewPCG(4, 7))
	counts := map[int64]int{}
	for _, x := range drawnStocks(5, 3000, 8) {
		for range r.IntN(3) {
			x.wants[r.IntN(len(x.wants))] += r.Int64N(3)
		}
		wanted, there, missing := int64(0), int64(0), int64(0)
		for station := range x.stock {
			wanted += x.wants[station]
			there += x.stock[station]
			missing += max(0, x.wants[station]-x.stock[station])
		}
		want := int64(impl.OK)
		if wanted > there {
			want = impl.ErrFull
		} else if missing > 6 {
			want = impl.ErrState
		}
		_, _, code := impl.BestMoves(x.stock, x.wants, x.costs)
		check(t, x.String(), code, want)
		_, code = impl.MovesBack(x.stock, x.wants)
		check(t, x.String(), code == impl.ErrFull, want == impl.ErrFull)
		counts[want]++
	}
	if counts[impl.OK] < 300 || counts[impl.ErrFull] < 300 || counts[impl.ErrState] < 300 {
		t.Errorf("too few codes of one kind: %v", counts)
	}
}

func drawnMoves(r *rand.Rand, stations, count int) []impl.Move {
	var moves []impl.Move
	for range count {
		from := r.IntN(stations)
		to := (from + 1 + r.IntN(stations-1)) % stations
		moves = append(moves, move(int64(from), int64(to), 1+r.Int64N(4)))
	}
	return moves
}

func TestCarriersAreSentOneByOne(t *testing.T) {
	r := rand.New(rand.NewPCG(6, 7))
	counts := map[bool]int{}
	for _, x := range drawnStocks(7, 2000, 20) {
		moves := drawnMoves(r, len(x.stock), []int{1, 2, 5, 40}[r.IntN(4)])
		want, wantAt := sendBySpec(x.stock, moves)
		left, at, code := impl.SendAll(x.stock, moves)
		check(t, fmt.Sprint(x, moves), []any{left, at, code}, []any{want, wantAt, int64(impl.OK)})
		check(t, fmt.Sprint(x, moves), impl.ValidStock(left), true)
		counts[at < 0]++
		want, wantAt = sendBySpec(x.stock, moves[:1])
		left, code = impl.SendCarriers(x.stock, moves[0])
		if wantAt < 0 {
			check(t, fmt.Sprint(x, moves[0]), []any{left, code}, []any{want, int64(impl.OK)})
		} else {
			check(t, fmt.Sprint(x, moves[0]), []any{isZero(left), code}, []any{true, int64(impl.ErrState)})
		}
		sum := int64(0)
		for _, m := range moves {
			for range m.Many {
				sum += x.costs[m.From][m.To]
			}
		}
		cost, code := impl.CostOfMoves(moves, x.costs)
		check(t, fmt.Sprint(x, moves), []int64{cost, code}, []int64{sum, impl.OK})
	}
	if counts[true] < 300 || counts[false] < 300 {
		t.Errorf("too few possible moves or too many: %v", counts)
	}
}

// drawnSeals have few different numbers, so that many shares are equal.
func drawnSeals(seed uint64, count int) [][]impl.Seal {
	r := rand.New(rand.NewPCG(seed, 7))
	var lists [][]impl.Seal
	for range count {
		var list []impl.Seal
		most := []int64{1, 2, 4, 12, 1000}[r.IntN(5)]
		for range []int{0, 1, 2, 5, 20, 60}[r.IntN(6)] {
			x := seal(0, 1+r.Int64N(most))
			x.Runs = r.Int64N(x.Most + 1)
			list = append(list, x)
		}
		lists = append(lists, list)
	}
	return lists
}

// nextBySpec compares exact fractions.
func nextBySpec(list []impl.Seal) []int64 {
	var least *big.Rat
	next := []int64{0, impl.ErrNotFound}
	for k, s := range list {
		share := rat(s.Runs, s.Most)
		if s.Runs < s.Most && (least == nil || share.Cmp(least) < 0) {
			least, next = share, []int64{int64(k), impl.OK}
		}
	}
	return next
}

// A fleet runs until all of it is worn; each run takes one from what is left.
func TestFleetsRunUntilTheyAreWorn(t *testing.T) {
	for _, list := range append(drawnSeals(8, 600), cornerSeals()...) {
		for range 50 {
			left, code := impl.RunsLeft(list)
			check(t, fmt.Sprint(list), code, int64(impl.OK))
			k, code := impl.NextCarrier(list)
			check(t, fmt.Sprint(list), []int64{k, code}, nextBySpec(list))
			check(t, fmt.Sprint(list), code == impl.ErrNotFound, left == 0)
			worn, wornCode := impl.WornSeals(list)
			check(t, fmt.Sprint(list), []any{len(worn) == len(list), wornCode}, []any{left == 0, int64(impl.OK)})
			check(t, fmt.Sprint(list), slices.Contains(worn, k), code == impl.ErrNotFound && len(list) > 0)
			if code != impl.OK {
				break
			}
			want := slices.Clone(list)
			want[k].Runs++
			list, code = impl.RunCarrier(list, k)
			check(t, fmt.Sprint(list), []any{list, code}, []any{want, int64(impl.OK)})
			after, _ := impl.RunsLeft(list)
			check(t, fmt.Sprint(list), after, left-1)
		}
	}
}

func TestSealsOneByOne(t *testing.T) {
	for _, list := range append(drawnSeals(9, 600), cornerSeals()...) {
		var want []int64
		for k, s := range list {
			_, code := impl.RunCarrier(list, int64(k))
			if s.Runs == s.Most {
				want = append(want, int64(k))
				check(t, fmt.Sprint(list, k), code, int64(impl.ErrState))
			} else {
				check(t, fmt.Sprint(list, k), code, int64(impl.OK))
			}
		}
		worn, code := impl.WornSeals(list)
		check(t, fmt.Sprint(list), code, int64(impl.OK))
		check(t, fmt.Sprint(list), worn, want)
	}
}

// carrierResults calls every function of chapter 7.
func carrierResults(x stockArgs, seals []impl.Seal, k int64) []any {
	all := []any{impl.ValidStock(x.stock), impl.SameMoves(x.moves, []impl.Move{x.m}), impl.SameMoves(x.moves, x.moves), impl.ValidSeals(seals)}
	calls := stockCalls(x)
	for _, name := range allStockCalls {
		all = append(all, calls[name]...)
	}
	calls = sealCalls(seals, k)
	for _, name := range allSealCalls {
		all = append(all, calls[name]...)
	}
	return all
}

// drawnStockArgs are valid and invalid arguments around a stock.
func drawnStockArgs(r *rand.Rand, x stockCase) stockArgs {
	y := stockArgs{stock: x.stock, wants: x.wants, costs: x.costs, moves: drawnMoves(r, max(2, len(x.stock)), r.IntN(5))}
	y.m = drawnMoves(r, max(2, len(x.stock)), 1)[0]
	if r.IntN(3) == 0 {
		moves := wrongMoves(2)
		y.m = moves[r.IntN(len(moves))]
	}
	if r.IntN(3) == 0 {
		y.moves = wrongMoveLists(2)[2+r.IntN(30)]
	}
	if r.IntN(4) == 0 {
		y.wants = slices.Repeat([]int64{hostileNumbers[r.IntN(len(hostileNumbers))]}, r.IntN(12))
	}
	if r.IntN(4) == 0 {
		costs := append(wrongCosts(2)[5:], otherCosts()...)
		y.costs = costs[r.IntN(len(costs))]
	}
	return y
}

// Promise 1 for chapter 7.
func TestCarriersKeepArguments(t *testing.T) {
	r := rand.New(rand.NewPCG(10, 7))
	list := append(drawnStocks(11, 300, 6), drawnStocks(12, 50, 30)...)
	for _, stock := range slices.Concat(cornerStocks(), invalidStocks()) {
		if len(stock) < 100 {
			list = append(list, stockCase{stock, stock, equalCosts(len(stock), 1)}, stockCase{stock, make([]int64, len(stock)), nil})
		}
	}
	seals := slices.Concat(cornerSeals(), drawnSeals(13, 20), [][]impl.Seal{{seal(2, 1)}, wornFleet(61)})
	for _, x := range list {
		for range 5 {
			k := hostileNumbers[r.IntN(len(hostileNumbers))]
			if r.IntN(2) == 0 {
				k = r.Int64N(4)
			}
			checkCarriersKept(t, drawnStockArgs(r, x), seals[r.IntN(len(seals))], k)
		}
	}
}

// guardedRows guards the list and each row in it.
func guardedRows(rows [][]int64) ([][]int64, func() bool) {
	return guardedDeeply(rows, []int64{77}, func(row []int64) ([]int64, func() bool) { return guarded(row, 77) })
}

func checkCarriersKept(t *testing.T, x stockArgs, seals []impl.Seal, k int64) {
	t.Helper()
	given := x
	var changes [5]func() bool
	given.stock, changes[0] = guarded(x.stock, 77)
	given.wants, changes[1] = guarded(x.wants, 77)
	given.costs, changes[2] = guardedRows(x.costs)
	given.moves, changes[3] = guarded(x.moves, move(77, 77, 77))
	seals, changes[4] = guarded(seals, seal(77, 77))
	name := brief(x, seals, k)
	checkResultsKept(t, name, func() []any { return carrierResults(given, seals, k) }, changes[:]...)
}

// Moves are joined in a map: its order is never seen in a result.
func TestBestMovesHaveOneOrder(t *testing.T) {
	for _, x := range drawnStocks(14, 40, 6) {
		want, _, _ := impl.BestMoves(x.stock, x.wants, x.costs)
		for range 50 {
			moves, _, _ := impl.BestMoves(x.stock, x.wants, x.costs)
			check(t, x.String(), moves, want)
		}
	}
}

// One list that is given as stock, as wants and as rows of costs is returned by no function.
func TestSharedListsOfStocksAreKept(t *testing.T) {
	shared := []int64{5, 0, 1}
	costs := [][]int64{shared, shared, shared}
	spoil(carrierResults(stockArgs{stock: shared, wants: shared, costs: costs, m: move(0, 1, 2)}, nil, 0))
	check(t, "shared", shared, []int64{5, 0, 1})
	_, cost, code := impl.BestMoves(shared, []int64{4, 1, 1}, costs)
	check(t, "cost", []int64{cost, code}, []int64{0, impl.OK})
}
