package tests

import (
	"fmt"
	"math"
	"slices"
	"strings"
	"testing"

	"loop.example/g01046/impl"
)

const exampleRideText = "100m 90g 8p 1b"

// ride reads a ride that a test is about.
func ride(t *testing.T, s string) impl.Ride {
	t.Helper()
	x, ok := impl.ReadRide(s)
	if !ok {
		t.Fatalf("%q is no ride", s)
	}
	return x
}

func rides(t *testing.T, texts ...string) []impl.Ride {
	t.Helper()
	var list []impl.Ride
	for _, s := range texts {
		list = append(list, ride(t, s))
	}
	return list
}

func fraction(num, den int64) impl.Fraction { return impl.Fraction{Num: num, Den: den} }

// cornerRides lie at the limits.
func cornerRides() []impl.Ride {
	var list []impl.Ride
	for _, length := range []int64{1, 2, 1999, 2000} {
		for _, weight := range []int64{0, 1, 499, 500} {
			for _, pressure := range []int64{1, 2, 99, 100} {
				for _, bends := range []int64{0, 1, 39, 40} {
					list = append(list, impl.Ride{Length: length, Weight: weight, Pressure: pressure, Bends: bends})
				}
			}
		}
	}
	return list
}

func invalidRides() []impl.Ride {
	list := []impl.Ride{{}, {Length: 1}, {Pressure: 1}}
	good := impl.Ride{Length: 10, Weight: 20, Pressure: 30, Bends: 40}
	put := func(numbers []int64, set func(x *impl.Ride, n int64)) {
		for _, n := range append([]int64{math.MinInt64, -1, math.MaxInt64}, numbers...) {
			x := good
			set(&x, n)
			list = append(list, x)
		}
	}
	put([]int64{0, 2001}, func(x *impl.Ride, n int64) { x.Length = n })
	put([]int64{501}, func(x *impl.Ride, n int64) { x.Weight = n })
	put([]int64{0, 101}, func(x *impl.Ride, n int64) { x.Pressure = n })
	put([]int64{41}, func(x *impl.Ride, n int64) { x.Bends = n })
	return list
}

// invalidRideLists have an invalid ride at each place, or one ride too many.
func invalidRideLists() [][]impl.Ride {
	good := impl.Ride{Length: 10, Pressure: 30}
	list := [][]impl.Ride{slices.Repeat([]impl.Ride{good}, 9), slices.Repeat([]impl.Ride{{}}, 9)}
	for k := range 8 {
		bad := slices.Repeat([]impl.Ride{good}, 8)
		bad[k].Pressure = 0
		list = append(list, bad)
	}
	for _, x := range invalidRides() {
		list = append(list, []impl.Ride{x}, []impl.Ride{good, x})
	}
	return list
}

func TestSpeedLimits(t *testing.T) {
	check(t, "limits", []int{impl.MaxWeight, impl.MaxPressure, impl.MaxBend, impl.MaxGoals}, []int{500, 100, 40, 8})
}

func TestValidRide(t *testing.T) {
	for _, x := range cornerRides() {
		check(t, fmt.Sprint(x), impl.ValidRide(x), true)
	}
	for _, x := range invalidRides() {
		check(t, fmt.Sprint(x), impl.ValidRide(x), false)
	}
}

func TestExampleOfSpeeds(t *testing.T) {
	x := ride(t, exampleRideText)
	check(t, "ride", x, impl.Ride{Length: 100, Weight: 90, Pressure: 8, Bends: 1})
	speed, code := impl.SpeedOf(x)
	check(t, "speed", []any{speed, code}, []any{fraction(4, 1), int64(impl.OK)})
	ticks, code := impl.TicksOfRide(x)
	check(t, "ticks", []int64{ticks, code}, []int64{25, impl.OK})
}

func TestSpeedsAndTicks(t *testing.T) {
	for _, c := range []struct {
		text  string
		speed impl.Fraction
		ticks int64
	}{
		{"1m 0g 1p 0b", fraction(1, 1), 1}, // 1 exactly
		{"2000m 500g 1p 40b", fraction(1, 10), 20000},
		{"2000m 0g 100p 0b", fraction(100, 1), 20},
		{"2000m 500g 100p 40b", fraction(10, 1), 200},
		{"1m 500g 1p 40b", fraction(1, 10), 10},
		{"1m 0g 100p 0b", fraction(100, 1), 1}, // 1/100 up
		{"100m 0g 100p 0b", fraction(100, 1), 1},
		{"101m 0g 100p 0b", fraction(100, 1), 2},
		{"99m 0g 100p 0b", fraction(100, 1), 1},
		{"199m 0g 2p 0b", fraction(2, 1), 100}, // 99 and a half up
		{"200m 0g 2p 0b", fraction(2, 1), 100},
		{"201m 0g 2p 0b", fraction(2, 1), 101},
		{"100m 100g 3p 0b", fraction(3, 2), 67}, // 66 and two thirds up
		{"99m 100g 3p 0b", fraction(3, 2), 66},
		{"7m 11g 13p 4b", fraction(1300, 151), 1},
		{"9m 11g 13p 4b", fraction(1300, 151), 2},
		{"1300m 11g 13p 4b", fraction(1300, 151), 151},
		{"1301m 11g 13p 4b", fraction(1300, 151), 152},
	} {
		x := ride(t, c.text)
		speed, one := impl.SpeedOf(x)
		ticks, two := impl.TicksOfRide(x)
		check(t, c.text, []any{speed, one, ticks, two}, []any{c.speed, int64(impl.OK), c.ticks, int64(impl.OK)})
	}
}

func TestTicksOfWay(t *testing.T) {
	for _, c := range []struct {
		list []impl.Ride
		want int64
	}{
		{nil, 0}, {[]impl.Ride{}, 0},
		{rides(t, exampleRideText), 25},
		{rides(t, "101m 0g 100p 0b", "101m 0g 100p 0b"), 4}, // each one rounded up for itself
		{rides(t, exampleRideText, "100m 100g 1p 0b", "1m 0g 1p 0b"), 226},
		{slices.Repeat(rides(t, "2000m 500g 1p 40b"), 8), 160000},
	} {
		got, code := impl.TicksOfWay(c.list)
		check(t, fmt.Sprint(c.list), []int64{got, code}, []int64{c.want, impl.OK})
	}
}

func TestPressureFor(t *testing.T) {
	for _, c := range []struct {
		text        string
		ticks, want int64
		code        int64
	}{
		{exampleRideText, 20, 10, impl.OK}, {exampleRideText, 24, 9, impl.OK}, {exampleRideText, 25, 8, impl.OK},
		{exampleRideText, 199, 2, impl.OK}, {exampleRideText, 200, 1, impl.OK}, {exampleRideText, 1000000, 1, impl.OK},
		{exampleRideText, 2, 100, impl.OK}, {exampleRideText, 3, 67, impl.OK},
		{exampleRideText, 1, 0, impl.ErrNotFound}, {exampleRideText, 0, 0, impl.ErrNotFound},
		{"100m 0g 50p 0b", 1, 100, impl.OK}, {"101m 0g 50p 0b", 1, 0, impl.ErrNotFound}, {"99m 0g 50p 0b", 1, 99, impl.OK},
		{"1m 0g 100p 0b", 0, 0, impl.ErrNotFound},
		{"2000m 500g 1p 40b", 199, 0, impl.ErrNotFound}, {"2000m 500g 1p 40b", 200, 100, impl.OK},
		{"2000m 500g 1p 40b", 19999, 2, impl.OK}, {"2000m 500g 1p 40b", 20000, 1, impl.OK},
	} {
		got, code := impl.PressureFor(ride(t, c.text), c.ticks)
		check(t, fmt.Sprint(c.text, c.ticks), []int64{got, code}, []int64{c.want, c.code})
	}
}

func TestHeaviestFor(t *testing.T) {
	for _, c := range []struct {
		text        string
		ticks, want int64
		code        int64
	}{
		{exampleRideText, 30, 130, impl.OK}, {exampleRideText, 25, 90, impl.OK}, {exampleRideText, 24, 82, impl.OK},
		{exampleRideText, 14, 2, impl.OK}, {exampleRideText, 13, 0, impl.ErrNotFound}, {exampleRideText, 5, 0, impl.ErrNotFound}, {exampleRideText, 0, 0, impl.ErrNotFound},
		{exampleRideText, 76, 498, impl.OK}, {exampleRideText, 77, 500, impl.OK}, {exampleRideText, 1000000, 500, impl.OK},
		{"100m 500g 100p 0b", 1, 0, impl.OK}, {"101m 500g 100p 0b", 1, 0, impl.ErrNotFound},
		{"100m 0g 100p 0b", 6, 500, impl.OK}, {"100m 0g 100p 0b", 5, 400, impl.OK},
		{"1m 0g 1p 40b", 5, 0, impl.OK}, {"1m 0g 1p 40b", 4, 0, impl.ErrNotFound},
	} {
		got, code := impl.HeaviestFor(ride(t, c.text), c.ticks)
		check(t, fmt.Sprint(c.text, c.ticks), []int64{got, code}, []int64{c.want, c.code})
	}
}

func TestPlaceAfter(t *testing.T) {
	way := rides(t, exampleRideText, "100m 100g 1p 0b", "1m 0g 100p 0b", "7m 11g 13p 4b")
	for _, c := range []struct {
		ticks, ride int64
		far         impl.Fraction
	}{
		{0, 0, fraction(0, 1)}, {1, 0, fraction(4, 1)}, {24, 0, fraction(96, 1)},
		{25, 1, fraction(0, 1)}, {26, 1, fraction(1, 2)}, {27, 1, fraction(1, 1)}, {28, 1, fraction(3, 2)}, {224, 1, fraction(199, 2)},
		{225, 2, fraction(0, 1)}, {226, 3, fraction(0, 1)},
	} {
		k, far, code := impl.PlaceAfter(way, c.ticks)
		check(t, fmt.Sprint(c), []any{k, far, code}, []any{c.ride, c.far, int64(impl.OK)})
	}
	for _, ticks := range []int64{227, 228, 1000000} {
		k, far, code := impl.PlaceAfter(way, ticks)
		check(t, fmt.Sprint(ticks), []any{k, far, code}, []any{int64(0), impl.Fraction{}, int64(impl.ErrNotFound)})
	}
	for _, ticks := range []int64{0, 1, 1000000} {
		k, far, code := impl.PlaceAfter(nil, ticks)
		check(t, "no rides", []any{k, far, code}, []any{int64(0), impl.Fraction{}, int64(impl.ErrNotFound)})
	}
	k, far, code := impl.PlaceAfter(slices.Repeat(rides(t, "2000m 500g 1p 40b"), 8), 159999)
	check(t, "longest way", []any{k, far, code}, []any{int64(7), fraction(19999, 10), int64(impl.OK)})
}

func TestCatchUp(t *testing.T) {
	slow, fast := "100m 100g 1p 0b", exampleRideText
	for _, c := range []struct {
		first, second string
		later, want   int64
		code          int64
	}{
		{slow, fast, 0, 0, impl.OK}, {fast, slow, 0, 0, impl.OK}, {slow, slow, 0, 0, impl.OK},
		{slow, fast, 7, 8, impl.OK}, // at the same place then
		{slow, fast, 1, 2, impl.OK}, {slow, fast, 8, 10, impl.OK}, {slow, fast, 14, 16, impl.OK}, {slow, fast, 15, 18, impl.OK},
		{slow, fast, 174, 199, impl.OK}, {slow, fast, 175, 0, impl.ErrNotFound}, {slow, fast, 176, 0, impl.ErrNotFound},
		{slow, fast, 10000, 0, impl.ErrNotFound},
		{fast, slow, 1, 0, impl.ErrNotFound}, {fast, slow, 24, 0, impl.ErrNotFound}, {fast, slow, 25, 0, impl.ErrNotFound},
		{slow, slow, 1, 0, impl.ErrNotFound}, {slow, "100m 300g 2p 0b", 1, 0, impl.ErrNotFound}, // equal speeds
		{"1m 500g 1p 40b", "1m 0g 100p 0b", 1, 2, impl.OK}, {"1m 500g 1p 40b", "1m 0g 100p 0b", 8, 9, impl.OK}, {"1m 500g 1p 40b", "1m 0g 100p 0b", 9, 0, impl.ErrNotFound},
		{"1m 0g 100p 0b", "1m 0g 100p 0b", 1, 0, impl.ErrNotFound},
		{"2000m 500g 1p 40b", "2000m 0g 100p 0b", 10000, 10011, impl.OK},
		{"2000m 500g 1p 40b", "2000m 499g 1p 40b", 19, 19000, impl.OK}, {"2000m 500g 1p 40b", "2000m 499g 1p 40b", 20, 0, impl.ErrNotFound},
		{"3m 100g 1p 0b", "3m 0g 1p 0b", 2, 4, impl.OK}, {"3m 100g 1p 0b", "3m 0g 1p 0b", 3, 0, impl.ErrNotFound},
	} {
		got, code := impl.CatchUp(ride(t, c.first), ride(t, c.second), c.later)
		check(t, fmt.Sprint(c), []int64{got, code}, []int64{c.want, c.code})
	}
}

func TestSlowestRide(t *testing.T) {
	for _, c := range []struct {
		list []impl.Ride
		want int64
	}{
		{rides(t, exampleRideText), 0},
		{rides(t, exampleRideText, "100m 100g 1p 0b"), 1},
		{rides(t, "100m 100g 1p 0b", exampleRideText), 0},
		{rides(t, "2000m 100g 1p 0b", "1m 300g 2p 0b", "7m 0g 1p 10b"), 0}, // 1/2 each
		{rides(t, exampleRideText, "2000m 100g 1p 0b", "1m 300g 2p 0b"), 1},
		{rides(t, "2000m 0g 1p 0b", "1m 1g 1p 0b"), 1}, // the one with more ticks is faster
		{rides(t, "1m 500g 33p 40b", "1m 499g 33p 40b", "1m 499g 32p 40b", "1m 500g 32p 40b", "1m 500g 32p 40b"), 3},
		{slices.Repeat(rides(t, exampleRideText), 8), 0},
	} {
		got, code := impl.SlowestRide(c.list)
		check(t, fmt.Sprint(c.list), []int64{got, code}, []int64{c.want, impl.OK})
	}
	for _, list := range [][]impl.Ride{nil, {}} {
		got, code := impl.SlowestRide(list)
		check(t, "no rides", []int64{got, code}, []int64{0, impl.ErrNotFound})
	}
}

func TestBestPressures(t *testing.T) {
	two := rides(t, "100m 100g 1p 0b", "10m 0g 9p 0b")
	equal := slices.Repeat(rides(t, "100m 0g 50p 0b"), 3)
	for _, c := range []struct {
		list  []impl.Ride
		ticks int64
		want  []int64
	}{
		{nil, 0, nil}, {nil, 1000000, nil},
		{two, 110, []int64{2, 1}}, {two, 109, []int64{3, 1}}, {two, 210, []int64{1, 1}}, {two, 209, []int64{2, 1}}, {two, 1000000, []int64{1, 1}},
		{equal, 300, []int64{1, 1, 1}}, {equal, 299, []int64{2, 1, 1}}, {equal, 249, []int64{2, 2, 1}}, {equal, 200, []int64{2, 2, 1}}, {equal, 199, []int64{2, 2, 2}}, {equal, 149, []int64{3, 2, 2}},
		{equal, 3, []int64{100, 100, 100}},
		{rides(t, "1m 0g 1p 0b", "1m 0g 9p 0b"), 2, []int64{1, 1}},
		{rides(t, "1m 0g 1p 0b", "2m 0g 9p 0b"), 2, []int64{1, 2}},
		// Savings of 0: the first ride gets all it can before the next one gets more.
		{rides(t, "5m 0g 1p 0b", "5m 0g 1p 0b"), 5, []int64{3, 2}},
		{rides(t, "100m 0g 1p 0b"), 1, []int64{100}}, {rides(t, "100m 0g 1p 0b"), 2, []int64{50}},
		{rides(t, "100m 500g 1p 40b", "100m 0g 1p 0b"), 11, []int64{100, 100}},
	} {
		got, code := impl.BestPressures(c.list, c.ticks)
		check(t, fmt.Sprint(c.list, c.ticks), code, int64(impl.OK))
		check(t, fmt.Sprint(c.list, c.ticks), got, c.want)
	}
	for _, c := range []struct {
		list  []impl.Ride
		ticks int64
	}{
		{equal, 2}, {equal, 0}, {rides(t, "1m 0g 100p 0b"), 0}, {rides(t, "101m 0g 100p 0b"), 1},
		{slices.Repeat(rides(t, "2000m 500g 1p 40b"), 8), 1599},
	} {
		got, code := impl.BestPressures(c.list, c.ticks)
		check(t, fmt.Sprint(c.list, c.ticks), code, int64(impl.ErrNotFound))
		check(t, fmt.Sprint(c.list, c.ticks), got, []int64(nil))
	}
	got, code := impl.BestPressures(slices.Repeat(rides(t, "2000m 500g 1p 40b"), 8), 1600)
	check(t, "all have the greatest", []any{got, code}, []any{slices.Repeat([]int64{100}, 8), int64(impl.OK)})
}

// rideCalls are the functions for a ride; each returns its results.
func rideCalls(x impl.Ride, ticks int64) map[string][]any {
	calls := map[string][]any{}
	put := func(name string, result any, code int64) { calls[name] = []any{result, code} }
	speed, code := impl.SpeedOf(x)
	put("SpeedOf", speed, code)
	taken, code := impl.TicksOfRide(x)
	put("TicksOfRide", taken, code)
	pressure, code := impl.PressureFor(x, ticks)
	put("PressureFor", pressure, code)
	weight, code := impl.HeaviestFor(x, ticks)
	put("HeaviestFor", weight, code)
	return calls
}

// rideListCalls are the functions for a list of rides; each returns its results.
func rideListCalls(list []impl.Ride, ticks int64) map[string][]any {
	calls := map[string][]any{}
	put := func(name string, result any, code int64) { calls[name] = []any{result, code} }
	taken, code := impl.TicksOfWay(list)
	put("TicksOfWay", taken, code)
	slowest, code := impl.SlowestRide(list)
	put("SlowestRide", slowest, code)
	k, far, code := impl.PlaceAfter(list, ticks)
	put("PlaceAfter", []int64{k, far.Num, far.Den}, code)
	pressures, code := impl.BestPressures(list, ticks)
	put("BestPressures", pressures, code)
	return calls
}

func checkSpeedError(t *testing.T, calls map[string][]any, want int64, names ...string) {
	t.Helper()
	for _, name := range names {
		zero := map[string]any{"SpeedOf": impl.Fraction{}, "PlaceAfter": []int64{0, 0, 0}, "BestPressures": []int64(nil)}[name]
		if zero == nil {
			zero = int64(0)
		}
		check(t, name, calls[name][0], zero)
		check(t, name, calls[name][1], want)
	}
}

var outsideTicks = []int64{math.MinInt64, -1, 1000001, math.MaxInt64}

func TestSpeedErrors(t *testing.T) {
	for _, x := range invalidRides() {
		for _, ticks := range append([]int64{0, 5, 1000000}, outsideTicks...) {
			checkSpeedError(t, rideCalls(x, ticks), impl.ErrInvalid, "SpeedOf", "TicksOfRide", "PressureFor", "HeaviestFor")
		}
	}
	for _, list := range invalidRideLists() {
		for _, ticks := range append([]int64{0, 5, 1000000}, outsideTicks...) {
			checkSpeedError(t, rideListCalls(list, ticks), impl.ErrInvalid, "TicksOfWay", "SlowestRide", "PlaceAfter", "BestPressures")
		}
	}
	for _, ticks := range outsideTicks {
		checkSpeedError(t, rideCalls(ride(t, exampleRideText), ticks), impl.ErrRange, "PressureFor", "HeaviestFor")
		checkSpeedError(t, rideListCalls(nil, ticks), impl.ErrRange, "PlaceAfter", "BestPressures")
		checkSpeedError(t, rideListCalls(rides(t, exampleRideText), ticks), impl.ErrRange, "PlaceAfter", "BestPressures")
	}
}

func TestCatchUpErrors(t *testing.T) {
	good, short := ride(t, exampleRideText), ride(t, "99m 90g 8p 1b")
	outside := []int64{math.MinInt64, -1, 10001, math.MaxInt64}
	both := func(a, b impl.Ride, later, want int64) {
		t.Helper()
		got, code := impl.CatchUp(a, b, later)
		check(t, fmt.Sprint(a, b, later), []int64{got, code}, []int64{0, want})
	}
	for _, x := range invalidRides() {
		for _, later := range append([]int64{0, 1, 10000}, outside...) {
			both(x, good, later, impl.ErrInvalid)
			both(good, x, later, impl.ErrInvalid)
			both(x, x, later, impl.ErrInvalid)
		}
	}
	for _, later := range outside {
		both(good, good, later, impl.ErrRange)
		both(good, short, later, impl.ErrRange)
	}
	for _, later := range []int64{0, 1, 24, 25, 10000} {
		both(good, short, later, impl.ErrFormat)
		both(short, good, later, impl.ErrFormat)
	}
}

func TestRideText(t *testing.T) {
	check(t, "example", impl.RideText(impl.Ride{Length: 100, Weight: 90, Pressure: 8, Bends: 1}), exampleRideText)
	check(t, "greatest", impl.RideText(impl.Ride{Length: 2000, Weight: 500, Pressure: 100, Bends: 40}), "2000m 500g 100p 40b")
	for _, x := range invalidRides() {
		check(t, fmt.Sprint(x), impl.RideText(x), "")
	}
	for _, x := range cornerRides() {
		back, ok := impl.ReadRide(impl.RideText(x))
		check(t, fmt.Sprint(x), []any{back, ok}, []any{x, true})
	}
}

func TestReadRideOfOtherTexts(t *testing.T) {
	wrong := []string{
		"", " ", "m g p b", "100m", "100m 90g", "100m 90g 8p", "100m 90g 8p 1b ", " 100m 90g 8p 1b", "100m  90g 8p 1b", "100m 90g 8p  1b", "100m 90g 8p 1b 1b", "100m90g8p1b",
		"100 90g 8p 1b", "100m 90 8p 1b", "100m 90g 8 1b", "100m 90g 8p 1", "90g 100m 8p 1b", "100m 90g 1b 8p", "100g 90m 8p 1b", "100m 90g 8b 1p",
		"100M 90g 8p 1b", "100mm 90g 8p 1b", "100m 90g 8p 1bb", "m100 90g 8p 1b", "100m 90g 8p b1", "100 m 90g 8p 1b", "100m 90g 8p 1b\n", "100m\t90g\t8p\t1b", "\n100m 90g 8p 1b",
		"0m 90g 8p 1b", "2001m 90g 8p 1b", "100m 501g 8p 1b", "100m 90g 0p 1b", "100m 90g 101p 1b", "100m 90g 8p 41b",
		"-1m 90g 8p 1b", "100m -1g 8p 1b", "100m -0g 8p 1b", "100m 90g -8p 1b", "100m 90g 8p -1b", "+100m 90g 8p 1b", "0100m 90g 8p 1b", "100m 090g 8p 1b", "100m 90g 08p 1b", "100m 90g 8p 01b", "100m 90g 8p 00b",
		"m 90g 8p 1b", "100m g 8p 1b", "100m 90g p 1b", "100m 90g 8p b", "100m xg 8p 1b", "100m 90g 8p xb", "100m 0x9g 8p 1b", "100m 1_0g 8p 1b", "1e2m 90g 8p 1b", "100m 90g 8p 1.0b",
		"99999999999999999999m 90g 8p 1b", "100m 90g 8p 99999999999999999999b", "100m 18446744073709551706g 8p 1b",
		"100m, 90g, 8p, 1b", "100m 90g 8p 1b\x00", "\xff00m 90g 8p 1b", "１00m 90g 8p 1b", "100m\u00a090g 8p 1b", strings.Repeat("100m ", 4), strings.Repeat(exampleRideText, 2),
	}
	for _, s := range append(wrong, hostileTexts...) {
		x, ok := impl.ReadRide(s)
		check(t, fmt.Sprintf("%.40q", s), []any{x, ok}, []any{impl.Ride{}, false})
	}
}
