package tests

import (
	"fmt"
	"math/big"
	"math/rand/v2"
	"slices"
	"testing"

	"loop.example/g01046/impl"
)

func rat(num, den int64) *big.Rat { return big.NewRat(num, den) }

// speedBySpec is the speed that the document tells.
func speedBySpec(x impl.Ride) *big.Rat { return rat(100*x.Pressure, 100+x.Weight+10*x.Bends) }

func metres(speed *big.Rat, ticks int64) *big.Rat { return new(big.Rat).Mul(speed, rat(ticks, 1)) }

// isThrough reports whether a carrier has come through the tube after some ticks.
func isThrough(x impl.Ride, ticks int64) bool {
	return ticks >= 0 && metres(speedBySpec(x), ticks).Cmp(rat(x.Length, 1)) >= 0
}

func ratOf(f impl.Fraction) *big.Rat { return rat(f.Num, f.Den) }

// isLowest reports whether f is in lowest terms, as the conventions tell.
func isLowest(f impl.Fraction) bool {
	return f.Den > 0 && ratOf(f).Num().Int64() == f.Num && ratOf(f).Denom().Int64() == f.Den
}

// drawnRides are valid; every second one has few ticks, so that many of them are equal.
func drawnRides(seed uint64, count int) []impl.Ride {
	r := rand.New(rand.NewPCG(seed, 3))
	var list []impl.Ride
	for i := range count {
		x := impl.Ride{Length: 1 + r.Int64N(2000), Weight: r.Int64N(501), Pressure: 1 + r.Int64N(100), Bends: r.Int64N(41)}
		if i%2 == 0 {
			x = impl.Ride{Length: 1 + r.Int64N(20), Weight: 50 * r.Int64N(3), Pressure: 1 + r.Int64N(6), Bends: 5 * r.Int64N(2)}
		}
		list = append(list, x)
	}
	return list
}

func drawnRideLists(count int) [][]impl.Ride {
	r := rand.New(rand.NewPCG(4, 3))
	var lists [][]impl.Ride
	for i := range count {
		lists = append(lists, drawnRides(uint64(i+100), r.IntN(9)))
	}
	return lists
}

// Promise 3: a ride takes just enough ticks.
func TestRideTakesJustEnoughTicks(t *testing.T) {
	whole, rounded := 0, 0
	for _, x := range append(cornerRides(), drawnRides(1, 2000)...) {
		ticks, code := impl.TicksOfRide(x)
		check(t, fmt.Sprint(x), []any{code, isThrough(x, ticks), isThrough(x, ticks-1)}, []any{int64(impl.OK), true, false})
		speed, code := impl.SpeedOf(x)
		check(t, fmt.Sprint(x, speed), []any{code, isLowest(speed), ratOf(speed).Cmp(speedBySpec(x))}, []any{int64(impl.OK), true, 0})
		if metres(speedBySpec(x), ticks).Cmp(rat(x.Length, 1)) == 0 {
			whole++
		} else {
			rounded++
		}
	}
	if whole < 100 || rounded < 100 {
		t.Errorf("%d rides take whole ticks, and %d are rounded up", whole, rounded)
	}
}

// Promise 3: the least pressure is enough.
func TestLeastPressureIsEnough(t *testing.T) {
	for _, x := range append(cornerRides(), drawnRides(2, 600)...) {
		own, _ := impl.TicksOfRide(x)
		for _, ticks := range []int64{0, 1, 2, 3, 5, 20, own - 1, own, own + 1, 2 * own, 1000000} {
			checkPressure(t, x, ticks)
			checkHeaviest(t, x, ticks)
		}
	}
}

func checkPressure(t *testing.T, x impl.Ride, ticks int64) {
	t.Helper()
	want, wantCode := int64(0), int64(impl.ErrNotFound)
	for pressure := int64(100); pressure >= 1; pressure-- {
		if isThrough(impl.Ride{Length: x.Length, Weight: x.Weight, Pressure: pressure, Bends: x.Bends}, ticks) {
			want, wantCode = pressure, impl.OK
		}
	}
	got, code := impl.PressureFor(x, ticks)
	check(t, fmt.Sprint("pressure ", x, ticks), []int64{got, code}, []int64{want, wantCode})
}

func checkHeaviest(t *testing.T, x impl.Ride, ticks int64) {
	t.Helper()
	want, wantCode := int64(0), int64(impl.ErrNotFound)
	for weight := int64(0); weight <= 500; weight++ {
		if !isThrough(impl.Ride{Length: x.Length, Weight: weight, Pressure: x.Pressure, Bends: x.Bends}, ticks) {
			break
		}
		want, wantCode = weight, impl.OK
	}
	got, code := impl.HeaviestFor(x, ticks)
	check(t, fmt.Sprint("weight ", x, ticks), []int64{got, code}, []int64{want, wantCode})
}

func TestPlacesTickByTick(t *testing.T) {
	for _, list := range drawnRideLists(150) {
		at := int64(0)
		for k, x := range list {
			ticks, _ := impl.TicksOfRide(x)
			for in := int64(0); in < ticks; in += 1 + ticks/7 {
				checkPlace(t, list, at+in, int64(k), metres(speedBySpec(x), in))
			}
			checkPlace(t, list, at+ticks-1, int64(k), metres(speedBySpec(x), ticks-1))
			at += ticks
		}
		sum, code := impl.TicksOfWay(list)
		check(t, fmt.Sprint(list), []int64{sum, code}, []int64{at, impl.OK})
		k, far, code := impl.PlaceAfter(list, at)
		check(t, fmt.Sprint(list), []any{k, far, code}, []any{int64(0), impl.Fraction{}, int64(impl.ErrNotFound)})
	}
}

func checkPlace(t *testing.T, list []impl.Ride, ticks, k int64, metres *big.Rat) {
	t.Helper()
	got, far, code := impl.PlaceAfter(list, ticks)
	if got != k || code != impl.OK || !isLowest(far) || ratOf(far).Cmp(metres) != 0 {
		t.Errorf("%v after %d: got %d %v %d, want %d %v", list, ticks, got, far, code, k, metres)
	}
}

func TestCatchUpTickByTick(t *testing.T) {
	list := append(drawnRides(5, 80), cornerRides()[:20]...)
	found := 0
	for i, first := range list {
		for _, second := range list[i%7:] {
			second.Length = first.Length
			for _, later := range []int64{0, 1, 2, 7, 40} {
				want, wantCode := catchUpBySpec(first, second, later)
				got, code := impl.CatchUp(first, second, later)
				check(t, fmt.Sprint(first, second, later), []int64{got, code}, []int64{want, wantCode})
				if code == impl.OK && later > 0 {
					found++
				}
			}
		}
	}
	if found < 1000 {
		t.Errorf("only %d carriers catch up", found)
	}
}

func catchUpBySpec(first, second impl.Ride, later int64) (int64, int64) {
	for tick := later; !isThrough(first, tick); tick++ {
		// The speeds' denominators are multiplied out.
		one := 100 * first.Pressure * tick * (100 + second.Weight + 10*second.Bends)
		two := 100 * second.Pressure * (tick - later) * (100 + first.Weight + 10*first.Bends)
		if two >= one {
			return tick, impl.OK
		}
	}
	return 0, impl.ErrNotFound
}

func TestNoRideIsSlower(t *testing.T) {
	for _, list := range drawnRideLists(400) {
		k, code := impl.SlowestRide(list)
		if len(list) == 0 {
			check(t, "no rides", []int64{k, code}, []int64{0, impl.ErrNotFound})
			continue
		}
		check(t, fmt.Sprint(list), code, int64(impl.OK))
		for i, x := range list {
			order := speedBySpec(x).Cmp(speedBySpec(list[k]))
			if order < 0 || order == 0 && int64(i) < k {
				t.Errorf("%v: got %d, but there is %d", list, k, i)
			}
		}
	}
}

// bestPressuresBySpec looks at all savings anew for each pressure that is given.
func bestPressuresBySpec(list []impl.Ride, ticks int64) ([]int64, int64) {
	pressures := slices.Repeat([]int64{1}, len(list))
	taken := func(k int, pressure int64) int64 {
		x := list[k]
		return (x.Length*(100+x.Weight+10*x.Bends) + 100*pressure - 1) / (100 * pressure)
	}
	for {
		sum, best, most := int64(0), -1, int64(-1)
		for k, pressure := range pressures {
			sum += taken(k, pressure)
			if saved := taken(k, pressure) - taken(k, pressure+1); pressure < 100 && saved > most {
				best, most = k, saved
			}
		}
		if sum <= ticks {
			return pressures, impl.OK
		}
		if best < 0 {
			return nil, impl.ErrNotFound
		}
		pressures[best]++
	}
}

func TestBestPressuresStepByStep(t *testing.T) {
	for _, list := range drawnRideLists(150) {
		own, _ := impl.TicksOfWay(list)
		count := int64(len(list))
		for _, ticks := range []int64{0, 1, count, count + 1, 2 * count, 5 * count, own / 9, own / 3, own - 1, own, own + 1, 2 * own, 1000000} {
			if ticks < 0 {
				continue
			}
			want, wantCode := bestPressuresBySpec(list, ticks)
			got, code := impl.BestPressures(list, ticks)
			check(t, fmt.Sprint(list, ticks), code, wantCode)
			check(t, fmt.Sprint(list, ticks), got, want)
		}
	}
}

// speedResults calls every function of chapter 3.
func speedResults(list []impl.Ride, x impl.Ride, ticks int64) []any {
	var all []any
	for _, calls := range []map[string][]any{rideCalls(x, ticks), rideListCalls(list, ticks)} {
		for _, name := range []string{"SpeedOf", "TicksOfRide", "PressureFor", "HeaviestFor", "TicksOfWay", "SlowestRide", "PlaceAfter", "BestPressures"} {
			all = append(all, calls[name]...)
		}
	}
	for _, second := range list {
		tick, code := impl.CatchUp(x, second, ticks)
		all = append(all, tick, code)
	}
	back, ok := impl.ReadRide(impl.RideText(x))
	return append(all, impl.ValidRide(x), impl.RideText(x), back, ok)
}

// Promise 1 for chapter 3.
func TestSpeedsKeepArguments(t *testing.T) {
	lists := slices.Concat(drawnRideLists(60), invalidRideLists())
	numbers := slices.Concat(hostileNumbers, []int64{10000, 10001, 1000000, 1000001})
	for i, list := range lists {
		one := append(invalidRides(), drawnRides(9, 60)...)[i%60]
		for _, ticks := range numbers {
			given, changed := guarded(list, impl.Ride{Length: 7, Weight: 7, Pressure: 7, Bends: 7})
			checkResultsKept(t, brief(list, one, ticks), func() []any { return speedResults(given, one, ticks) }, changed)
		}
	}
}
