package tests

import (
	"fmt"
	"math"
	"slices"
	"strings"
	"testing"

	"loop.example/g01046/impl"
)

const (
	// ringText has the circle 0, 1, 2, a station 3 that leads into it, and a station 4 to which it leads.
	ringText = "5: 0>1*1 1>2*1 2>0*1 3>1*1 2>4*1"
	// chainText leads from each station to the next one.
	chainText = "10: 0>1*2000 1>2*2000 2>3*2000 3>4*2000 4>5*2000 5>6*2000 6>7*2000 7>8*2000 8>9*2000"
)

// stopped is the setting by which a carrier stops everywhere.
func stopped(n impl.Net) []int64 { return slices.Repeat([]int64{-1}, int(n.Stations)) }

// counted returns the numbers from 0 up to count - 1.
func counted(count int64) []int64 {
	var list []int64
	for i := range count {
		list = append(list, i)
	}
	return list
}

// invalidSettings are no settings of the network with ringText.
func invalidSettings() [][]int64 {
	list := [][]int64{
		nil, {}, {0, 1, 2, 3}, {0, 1, 2, 3, -1, -1}, {-1, -1, -1, -1}, {-1, -1, -1, -1, -1, -1},
		{1, 1, 2, 3, -1}, {0, 0, 2, 3, -1}, {0, 1, 2, 3, 4}, {2, 0, 1, 3, -1},
		slices.Repeat([]int64{-1}, 10000),
	}
	for station := range 5 {
		for _, tube := range []int64{-2, 5, 24, math.MinInt64, math.MaxInt64} {
			setting := []int64{0, 1, 4, 3, -1}
			setting[station] = tube
			list = append(list, setting)
		}
	}
	return list
}

// simpleWays and otherWays are about the network with ringText.
func simpleWays() [][]int64 {
	return [][]int64{nil, {}, {0}, {3}, {4}, {0, 1}, {1, 2}, {2, 0}, {0, 1, 4}, {3, 1, 2}, {3, 1, 4}, {1, 4}, {2}}
}

func otherWays() [][]int64 {
	return [][]int64{
		{0, 1, 2}, {1, 2, 0}, {2, 0, 1}, // all round: the last tube ends where the first one begins
		{3, 1, 2, 0},                                      // it ends where the second one begins
		{0, 2}, {1, 0}, {4, 0}, {0, 4}, {2, 1}, {3, 0, 1}, // some tube begins elsewhere
		{0, 0}, {1, 1}, {2, 4}, {0, 1, 1}, {0, 1, 2, 4}, {0, 1, 2, 0, 1, 4}, // several tubes begin at one station
		{-1}, {5}, {0, -1}, {0, 5}, {-1, 0}, {5, 0}, {0, 1, 5}, {24}, {math.MinInt64}, {math.MaxInt64}, {0, math.MaxInt64}, {0, math.MinInt64},
		slices.Repeat([]int64{0, 1, 2}, 10000), slices.Repeat([]int64{-1}, 10000),
	}
}

func TestExampleOfRoutes(t *testing.T) {
	n, setting := net(t, exampleText), []int64{2, 1, -1}
	one, code := impl.TurnsFor(n, setting, []int64{0, 1})
	check(t, "way 0, 1", []int64{one, code}, []int64{1, impl.OK})
	none, code := impl.TurnsFor(n, setting, []int64{2})
	check(t, "way 2", []int64{none, code}, []int64{0, impl.OK})
	way, turns, code := impl.FewestTurns(n, setting, 0, 2)
	check(t, "fewest", []any{way, turns, code}, []any{[]int64{2}, int64(0), int64(impl.OK)})
}

func TestValidSetting(t *testing.T) {
	n := net(t, ringText)
	for _, setting := range [][]int64{{-1, -1, -1, -1, -1}, {0, 1, 2, 3, -1}, {0, 1, 4, 3, -1}, {-1, 1, -1, 3, -1}} {
		check(t, fmt.Sprint(setting), impl.ValidSetting(n, setting), true)
	}
	for _, setting := range invalidSettings() {
		check(t, brief(setting), impl.ValidSetting(n, setting), false)
	}
	for _, bad := range invalidNets() {
		for _, setting := range [][]int64{nil, {-1}, {-1, -1}, {-1, -1, -1}, {0, -1, -1}, slices.Repeat([]int64{-1}, 10), slices.Repeat([]int64{-1}, 11)} {
			check(t, fmt.Sprint(bad, setting), impl.ValidSetting(bad, setting), false)
		}
	}
	check(t, "two stations", impl.ValidSetting(net(t, "2:"), []int64{-1, -1}), true)
	check(t, "ten stations", impl.ValidSetting(net(t, chainText), []int64{0, 1, 2, 3, 4, 5, 6, 7, 8, -1}), true)
	check(t, "the last tube", impl.ValidSetting(net(t, "2:"+strings.Repeat(" 0>1*1", 24)), []int64{23, -1}), true)
}

func TestRouteOf(t *testing.T) {
	for _, c := range []struct {
		text     string
		setting  []int64
		from, to int64
		route    []int64
		code     int64
	}{
		{exampleText, []int64{2, 1, -1}, 0, 2, []int64{2}, impl.OK},
		{exampleText, []int64{0, 1, -1}, 0, 2, []int64{0, 1}, impl.OK},
		{exampleText, []int64{0, 1, -1}, 0, 1, []int64{0}, impl.OK}, // it runs on, but was there
		{exampleText, []int64{2, 1, -1}, 0, 1, nil, impl.ErrNotFound},
		{exampleText, []int64{0, -1, -1}, 0, 2, nil, impl.ErrNotFound},
		{exampleText, []int64{-1, 1, -1}, 0, 2, nil, impl.ErrNotFound},
		{exampleText, []int64{0, 1, -1}, 2, 0, nil, impl.ErrNotFound},
		// From a station to itself, whether it stops there, runs on or comes back.
		{exampleText, []int64{-1, -1, -1}, 1, 1, nil, impl.OK},
		{exampleText, []int64{0, 1, -1}, 0, 0, nil, impl.OK},
		{ringText, []int64{0, 1, 2, 3, -1}, 0, 0, nil, impl.OK},
		{ringText, []int64{0, 1, 2, 3, -1}, 3, 3, nil, impl.OK},
		// Carriers that run in a circle, or into one.
		{ringText, []int64{0, 1, 2, 3, -1}, 0, 2, []int64{0, 1}, impl.OK},
		{ringText, []int64{0, 1, 2, 3, -1}, 1, 0, []int64{1, 2}, impl.OK},
		{ringText, []int64{0, 1, 2, 3, -1}, 3, 0, []int64{3, 1, 2}, impl.OK},
		{ringText, []int64{0, 1, 2, 3, -1}, 0, 3, nil, impl.ErrClash},
		{ringText, []int64{0, 1, 2, 3, -1}, 0, 4, nil, impl.ErrClash},
		{ringText, []int64{0, 1, 2, 3, -1}, 3, 4, nil, impl.ErrClash},
		{ringText, []int64{0, 1, 2, 3, -1}, 4, 0, nil, impl.ErrNotFound},
		{ringText, []int64{0, 1, 4, 3, -1}, 3, 4, []int64{3, 1, 4}, impl.OK},
		{ringText, []int64{0, 1, 4, 3, -1}, 3, 0, nil, impl.ErrNotFound},
		{"2: 0>1*1 1>0*1", []int64{0, 1}, 0, 1, []int64{0}, impl.OK},
		{"3: 0>1*1 1>0*1", []int64{0, 1, -1}, 0, 2, nil, impl.ErrClash},
		// The longest routes.
		{chainText, []int64{0, 1, 2, 3, 4, 5, 6, 7, 8, -1}, 0, 9, counted(9), impl.OK},
		{chainText, []int64{0, 1, 2, 3, 4, 5, 6, 7, -1, -1}, 0, 9, nil, impl.ErrNotFound},
		{chainText + " 9>0*1", counted(10), 0, 9, counted(9), impl.OK},
		{chainText + " 9>0*1", counted(10), 5, 4, []int64{5, 6, 7, 8, 9, 0, 1, 2, 3}, impl.OK},
		{chainText + " 9>8*1", counted(10), 0, 9, counted(9), impl.OK},
		{chainText + " 9>8*1", counted(10), 1, 0, nil, impl.ErrClash},
		// Parallel tubes.
		{"2: 0>1*9 0>1*3 0>1*5", []int64{2, -1}, 0, 1, []int64{2}, impl.OK},
	} {
		name := fmt.Sprint(c.text, c.setting, c.from, c.to)
		route, code := impl.RouteOf(net(t, c.text), c.setting, c.from, c.to)
		check(t, name, code, c.code)
		check(t, name, route, c.route)
	}
}

func TestEndsAndCircles(t *testing.T) {
	for _, c := range []struct {
		text    string
		setting []int64
		ends    []int64 // -1 for a carrier that never stops
		circles []int64
	}{
		{exampleText, []int64{2, 1, -1}, []int64{2, 2, 2}, nil},
		{exampleText, []int64{0, -1, -1}, []int64{1, 1, 2}, nil},
		{exampleText, []int64{-1, -1, -1}, []int64{0, 1, 2}, nil},
		{ringText, []int64{0, 1, 2, 3, -1}, []int64{-1, -1, -1, -1, 4}, []int64{0, 1, 2, 3}},
		{ringText, []int64{0, 1, 2, -1, -1}, []int64{-1, -1, -1, 3, 4}, []int64{0, 1, 2}},
		{ringText, []int64{0, 1, 4, 3, -1}, []int64{4, 4, 4, 4, 4}, nil},
		{ringText, []int64{0, -1, 2, 3, -1}, []int64{1, 1, 1, 1, 4}, nil},
		{"2: 0>1*1 1>0*1", []int64{0, 1}, []int64{-1, -1}, []int64{0, 1}},
		{"2: 0>1*1 1>0*1", []int64{-1, 1}, []int64{0, 0}, nil},
		{"6: 0>1*1 1>0*1 2>3*1 3>2*1 4>2*1 5>4*1", []int64{0, 1, 2, 3, 4, -1}, []int64{-1, -1, -1, -1, -1, 5}, []int64{0, 1, 2, 3, 4}},
		{"6: 0>1*1 1>0*1 2>3*1 3>2*1 4>2*1 5>4*1", []int64{0, 1, -1, 3, 4, 5}, []int64{-1, -1, 2, 2, 2, 2}, []int64{0, 1}},
		{chainText, []int64{0, 1, 2, 3, 4, 5, 6, 7, 8, -1}, slices.Repeat([]int64{9}, 10), nil},
		{chainText + " 9>8*1", counted(10), slices.Repeat([]int64{-1}, 10), counted(10)},
		{chainText + " 9>0*1", counted(10), slices.Repeat([]int64{-1}, 10), counted(10)},
		{"10:", slices.Repeat([]int64{-1}, 10), counted(10), nil},
	} {
		n := net(t, c.text)
		for from, end := range c.ends {
			code := int64(impl.OK)
			if end < 0 {
				end, code = 0, impl.ErrClash
			}
			got, gotCode := impl.EndOf(n, c.setting, int64(from))
			check(t, fmt.Sprint(c.text, c.setting, from), []int64{got, gotCode}, []int64{end, code})
		}
		circles, code := impl.CircleStations(n, c.setting)
		check(t, c.text, code, int64(impl.OK))
		check(t, fmt.Sprint(c.text, c.setting), circles, c.circles)
	}
}

func TestSetWayAndTurnsFor(t *testing.T) {
	for _, c := range []struct {
		text         string
		setting, way []int64
		set          []int64
		turns        int64
	}{
		{exampleText, []int64{2, 1, -1}, []int64{0, 1}, []int64{0, 1, -1}, 1},
		{exampleText, []int64{2, 1, -1}, []int64{2}, []int64{2, 1, -1}, 0},
		{exampleText, []int64{-1, -1, -1}, []int64{0, 1}, []int64{0, 1, -1}, 2},
		{exampleText, []int64{2, -1, -1}, []int64{0, 1}, []int64{0, 1, -1}, 2},
		{exampleText, []int64{0, 1, -1}, []int64{0, 1}, []int64{0, 1, -1}, 0},
		{exampleText, []int64{2, -1, -1}, nil, []int64{2, -1, -1}, 0},
		// The station at which the way ends keeps its setting.
		{ringText, []int64{0, 1, 2, 3, -1}, []int64{3}, []int64{0, 1, 2, 3, -1}, 0},
		{ringText, []int64{0, 1, 2, -1, -1}, []int64{3}, []int64{0, 1, 2, 3, -1}, 1},
		{ringText, []int64{-1, -1, 2, -1, -1}, []int64{3, 1, 4}, []int64{-1, 1, 4, 3, -1}, 3},
		{"2: 0>1*9 0>1*9 1>0*1", []int64{0, 2}, []int64{1}, []int64{1, 2}, 1},
		{"2: 0>1*9 0>1*9 1>0*1", []int64{1, -1}, []int64{1}, []int64{1, -1}, 0},
		{chainText, slices.Repeat([]int64{-1}, 10), counted(9), append(counted(9), -1), 9},
	} {
		n, name := net(t, c.text), fmt.Sprint(c.text, c.setting, c.way)
		set, code := impl.SetWay(n, c.setting, c.way)
		check(t, name, []any{set, code}, []any{c.set, int64(impl.OK)})
		turns, code := impl.TurnsFor(n, c.setting, c.way)
		check(t, name, []int64{turns, code}, []int64{c.turns, impl.OK})
	}
}

func TestFewestTurns(t *testing.T) {
	chained := []int64{0, 1, 2, 3, 4, 5, 6, 7, 8, -1}
	for _, c := range []struct {
		text     string
		setting  []int64
		from, to int64
		way      []int64
		turns    int64
	}{
		{exampleText, []int64{2, 1, -1}, 0, 2, []int64{2}, 0},
		{exampleText, []int64{0, 1, -1}, 0, 2, []int64{0, 1}, 0},
		{exampleText, []int64{0, -1, -1}, 0, 2, []int64{0, 1}, 1}, // one turn each, and shorter
		{exampleText, []int64{-1, -1, -1}, 0, 2, []int64{2}, 1},
		{exampleText, []int64{-1, 1, -1}, 0, 2, []int64{0, 1}, 1},
		{exampleText, []int64{0, 1, -1}, 1, 1, nil, 0},
		{"2:", []int64{-1, -1}, 1, 1, nil, 0},
		// Neither a circle nor a stop at from matters from a station to itself.
		{ringText, []int64{0, 1, 2, 3, -1}, 0, 0, nil, 0},
		{ringText, []int64{0, 1, 2, 3, -1}, 3, 4, []int64{3, 1, 4}, 1},
		{ringText, []int64{0, 1, 2, 3, -1}, 3, 0, []int64{3, 1, 2}, 0},
		// Fewer turns go before any length.
		{chainText + " 0>9*1", chained, 0, 9, counted(9), 0},
		{chainText + " 0>9*1", slices.Repeat([]int64{-1}, 10), 0, 9, []int64{9}, 1},
		{chainText + " 0>9*1", []int64{0, 1, 2, 3, 4, 5, 6, 7, -1, -1}, 0, 9, []int64{9}, 1},
		{chainText + " 0>9*1 0>8*1", chained, 0, 9, counted(9), 0},
		// Equally few turns: the least length.
		{"2: 0>1*9 0>1*5 0>1*7", []int64{-1, -1}, 0, 1, []int64{1}, 1},
		{"2: 0>1*9 0>1*5 0>1*7", []int64{0, -1}, 0, 1, []int64{0}, 0},
		{"4: 0>1*5 1>3*5 0>2*4 2>3*5", []int64{-1, -1, -1, -1}, 0, 3, []int64{2, 3}, 2},
		// And equal lengths: the first way, number by number.
		{"2: 0>1*6 0>1*5 0>1*5", []int64{-1, -1}, 0, 1, []int64{1}, 1},
		{"2: 0>1*5 0>1*5", []int64{1, -1}, 0, 1, []int64{1}, 0},
		{"4: 0>2*5 0>1*5 1>3*5 2>3*5", []int64{-1, -1, -1, -1}, 0, 3, []int64{0, 3}, 2},
		{"4: 2>3*5 0>1*5 1>3*5 0>2*5", []int64{-1, -1, -1, -1}, 0, 3, []int64{1, 2}, 2},
		{"4: 2>3*5 0>1*5 1>3*5 0>2*5", []int64{-1, -1, 0, -1}, 0, 3, []int64{3, 0}, 1},
		{"4: 2>3*5 0>1*5 1>3*5 0>2*5", []int64{-1, 2, 0, -1}, 0, 3, []int64{1, 2}, 1},
		{"3: 0>2*50 0>1*30 1>2*20", []int64{-1, 2, -1}, 0, 2, []int64{0}, 1},
		{"3: 0>1*30 0>2*50 1>2*20", []int64{-1, 2, -1}, 0, 2, []int64{0, 2}, 1},
	} {
		n, name := net(t, c.text), fmt.Sprint(c.text, c.setting, c.from, c.to)
		way, turns, code := impl.FewestTurns(n, c.setting, c.from, c.to)
		check(t, name, []int64{turns, code}, []int64{c.turns, impl.OK})
		check(t, name, way, c.way)
	}
}

func TestFewestTurnsWithoutWay(t *testing.T) {
	for _, c := range []struct {
		text     string
		from, to int64
	}{{"2:", 0, 1}, {"2: 0>1*1", 1, 0}, {exampleText, 2, 0}, {ringText, 4, 0}, {ringText, 0, 3}} {
		n := net(t, c.text)
		way, turns, code := impl.FewestTurns(n, stopped(n), c.from, c.to)
		check(t, c.text, []any{len(way), turns, code}, []any{0, int64(0), int64(impl.ErrNotFound)})
	}
}

func TestClashes(t *testing.T) {
	for _, c := range []struct {
		text string
		a, b []int64
		want int64
	}{
		{exampleText, []int64{0, 1}, []int64{2}, 0},
		{exampleText, []int64{0, 1}, []int64{1}, -1},
		{exampleText, []int64{0, 1}, []int64{0}, -1},
		{exampleText, []int64{0, 1}, []int64{0, 1}, -1},
		{exampleText, []int64{2}, []int64{1}, -1},
		{exampleText, []int64{0, 1}, nil, -1},
		{exampleText, nil, nil, -1},
		// The station at which one ends may be one through which the other one runs.
		{ringText, []int64{0, 1}, []int64{2}, -1},
		{ringText, []int64{3, 1, 4}, []int64{2, 0}, 2},
		{ringText, []int64{3, 1, 2}, []int64{0, 1, 4}, 2},
		{ringText, []int64{3, 1, 4}, []int64{0, 1, 4}, -1},
		// The least station, wherever it is in the ways.
		{"4: 3>1*1 1>2*1 2>0*1 3>1*2 1>2*2 2>0*2", []int64{0, 1, 2}, []int64{3, 4, 5}, 1},
		{"4: 3>1*1 1>2*1 2>0*1 3>1*2 1>2*2 2>0*2", []int64{0, 1, 2}, []int64{3, 1, 5}, 2},
		{"4: 3>1*1 1>2*1 2>0*1 3>1*2 1>2*2 2>0*2", []int64{0, 1, 2}, []int64{3, 1, 2}, 3},
		{"4: 3>1*1 1>2*1 2>0*1 3>1*2 1>2*2 2>0*2", []int64{0, 1, 2}, []int64{4}, 1},
		{"4: 3>2*1 2>1*1 1>0*1 1>3*1 3>2*5", []int64{0, 1, 2}, []int64{3, 4}, 1},
		{"4: 3>2*1 2>1*1 1>0*1 1>3*1 3>2*5", []int64{0, 1}, []int64{3, 4}, 3},
		{"2: 0>1*5 0>1*5", []int64{0}, []int64{1}, 0},
		{"2: 0>1*5 0>1*5 1>0*5", []int64{0}, []int64{2}, -1},
	} {
		n := net(t, c.text)
		for _, pair := range [][2][]int64{{c.a, c.b}, {c.b, c.a}} {
			name := fmt.Sprint(c.text, pair)
			got, code := impl.FirstClash(n, pair[0], pair[1])
			check(t, name, []int64{got, code}, []int64{c.want, impl.OK})
			fit, code := impl.WaysFit(n, pair[:])
			check(t, name, []any{fit, code}, []any{c.want == -1, int64(impl.OK)})
		}
	}
}

func TestWaysFit(t *testing.T) {
	n := net(t, ringText)
	for _, c := range []struct {
		ways [][]int64
		want bool
	}{
		{nil, true}, {[][]int64{}, true}, {[][]int64{nil}, true}, {[][]int64{{0, 1, 4}}, true},
		{[][]int64{{0}, {1}, {2}, {3}}, true}, // no two ways, though a carrier would run in a circle
		{[][]int64{{0, 1}, {1, 2}, {2, 0}, {3}}, true},
		{[][]int64{{0}, {1}, {2}, {4}}, false},
		{[][]int64{{2}, {1}, {0}, {3, 1, 4}}, false},
		{[][]int64{{4}, {0}, {1, 2}}, false},
		{slices.Repeat([][]int64{{0, 1, 4}}, 20), true},
		{slices.Repeat([][]int64{nil}, 20), true},
		{append(slices.Repeat([][]int64{{0, 1, 4}}, 19), []int64{2}), false},
		{append([][]int64{{2}}, slices.Repeat([][]int64{{0, 1, 4}}, 19)...), false},
	} {
		fit, code := impl.WaysFit(n, c.ways)
		check(t, fmt.Sprint(c.ways), []any{fit, code}, []any{c.want, int64(impl.OK)})
	}
}

func TestTooManyWays(t *testing.T) {
	n := net(t, ringText)
	for _, count := range []int{21, 22, 1000} {
		for _, way := range [][]int64{nil, {0, 1, 4}, {0, 0}, {9}} {
			fit, code := impl.WaysFit(n, slices.Repeat([][]int64{way}, count))
			check(t, fmt.Sprint(count, way), []any{fit, code}, []any{false, int64(impl.ErrRange)})
		}
	}
}

// netWithDegrees has so many tubes from each station, all to the next one.
func netWithDegrees(degrees []int64) impl.Net {
	n := impl.Net{Stations: int64(len(degrees))}
	for station, degree := range degrees {
		for range degree {
			n.Tubes = append(n.Tubes, impl.Tube{From: int64(station), To: int64((station + 1) % len(degrees)), Length: 1})
		}
	}
	return n
}

func TestCountSettings(t *testing.T) {
	for _, c := range []struct {
		degrees []int64
		want    int64
		code    int64
	}{
		{[]int64{0, 0}, 1, impl.OK}, {[]int64{1, 0}, 2, impl.OK}, {[]int64{24, 0}, 25, impl.OK}, {[]int64{12, 12}, 169, impl.OK},
		{[]int64{2, 1, 0}, 6, impl.OK}, {[]int64{8, 8, 8}, 729, impl.OK}, {slices.Repeat([]int64{1}, 10), 1024, impl.OK},
		{[]int64{6, 6, 6, 6}, 2401, impl.OK}, {[]int64{3, 3, 3, 3, 3, 3, 3, 3}, 65536, impl.OK},
		{[]int64{1, 1, 1, 1, 1, 2, 4, 4, 4, 4}, 60000, impl.OK}, {[]int64{2, 2, 2, 2, 2, 2, 2, 2, 2, 2}, 59049, impl.OK},
		{[]int64{3, 3, 3, 3, 2, 2, 2, 2, 2, 2}, 0, impl.ErrFull}, // 186624
		{[]int64{3, 3, 2, 2, 2, 2, 2, 2, 2, 2}, 0, impl.ErrFull}, // 104976
		{[]int64{2, 2, 4, 3, 2, 2, 2, 2, 1, 2}, 87480, impl.OK},
	} {
		got, code := impl.CountSettings(netWithDegrees(c.degrees))
		check(t, fmt.Sprint(c.degrees), []int64{got, code}, []int64{c.want, c.code})
	}
}

// No network has exactly 10^5 settings: for that, no fewer than 25 tubes could be. The nearest numbers on both sides are tested here.
func TestCountSettingsAroundTheLimit(t *testing.T) {
	most, least := int64(0), int64(math.MaxInt64)
	var try func(degrees []int64, left, product int64)
	try = func(degrees []int64, left, product int64) {
		if len(degrees) == 10 {
			got, code := impl.CountSettings(netWithDegrees(degrees))
			if product <= 100000 {
				most = max(most, product)
				check(t, fmt.Sprint(degrees), []int64{got, code}, []int64{product, impl.OK})
			} else {
				least = min(least, product)
				check(t, fmt.Sprint(degrees), []int64{got, code}, []int64{0, impl.ErrFull})
			}
			return
		}
		last := int64(0)
		if len(degrees) > 0 {
			last = degrees[len(degrees)-1]
		}
		for degree := last; degree <= left; degree++ {
			try(append(slices.Clone(degrees), degree), left-degree, product*(1+degree))
		}
	}
	try(nil, 24, 1)
	if most >= 100000 || least <= 100000 {
		t.Errorf("the nearest numbers are %d and %d", most, least)
	}
	check(t, "nearest numbers", []int64{most, least}, []int64{98415, 102060})
}

// routeCalls are the functions of chapter 4; each returns its results, the code last.
func routeCalls(n impl.Net, setting []int64, from, to int64, way []int64) map[string][]any {
	calls := map[string][]any{}
	put := func(name string, results ...any) { calls[name] = results }
	route, code := impl.RouteOf(n, setting, from, to)
	put("RouteOf", route, code)
	end, code := impl.EndOf(n, setting, from)
	put("EndOf", end, code)
	circles, code := impl.CircleStations(n, setting)
	put("CircleStations", circles, code)
	set, code := impl.SetWay(n, setting, way)
	put("SetWay", set, code)
	turns, code := impl.TurnsFor(n, setting, way)
	put("TurnsFor", turns, code)
	best, few, code := impl.FewestTurns(n, setting, from, to)
	put("FewestTurns", best, few, code)
	clash, code := impl.FirstClash(n, way, nil)
	put("FirstClash of the first one", clash, code)
	clash, code = impl.FirstClash(n, nil, way)
	put("FirstClash of the second one", clash, code)
	fit, code := impl.WaysFit(n, [][]int64{nil, way})
	put("WaysFit", fit, code)
	count, code := impl.CountSettings(n)
	put("CountSettings", count, code)
	return calls
}

var (
	settingCalls = []string{"RouteOf", "EndOf", "CircleStations", "SetWay", "TurnsFor", "FewestTurns"}
	clashCalls   = []string{"FirstClash of the first one", "FirstClash of the second one", "WaysFit"}
	wayCalls     = append([]string{"SetWay", "TurnsFor"}, clashCalls...)
)

func TestRoutesOfInvalidNets(t *testing.T) {
	for _, n := range invalidNets() {
		for _, setting := range [][]int64{nil, {-1}, {-1, -1, -1}, {0, -1, -1}, slices.Repeat([]int64{-1}, 10)} {
			for _, station := range []int64{0, -1, 11} {
				for _, way := range [][]int64{nil, {0}, {-1}, {99}, {0, 0}} {
					calls := routeCalls(n, setting, station, station, way)
					checkErrorResults(t, calls, impl.ErrInvalid, append(slices.Concat(settingCalls, clashCalls), "CountSettings")...)
				}
			}
		}
		fit, code := impl.WaysFit(n, make([][]int64, 21))
		check(t, "too many ways", []any{fit, code}, []any{false, int64(impl.ErrInvalid)})
	}
}

func TestInvalidSettings(t *testing.T) {
	n := net(t, ringText)
	for _, setting := range invalidSettings() {
		for _, station := range []int64{0, -1, 5} {
			for _, way := range [][]int64{nil, {0}, {-1}, {0, 0}} {
				checkErrorResults(t, routeCalls(n, setting, station, station, way), impl.ErrInvalid, settingCalls...)
			}
		}
	}
}

func TestRouteStationErrors(t *testing.T) {
	n := net(t, ringText)
	for _, setting := range [][]int64{{-1, -1, -1, -1, -1}, {0, 1, 2, 3, -1}, {0, 1, 4, 3, -1}} {
		for _, station := range []int64{-1, 5, 10, math.MinInt64, math.MaxInt64} {
			checkErrorResults(t, routeCalls(n, setting, station, 0, nil), impl.ErrRange, "RouteOf", "EndOf", "FewestTurns")
			checkErrorResults(t, routeCalls(n, setting, 0, station, nil), impl.ErrRange, "RouteOf", "FewestTurns")
			checkErrorResults(t, routeCalls(n, setting, station, station, nil), impl.ErrRange, "RouteOf", "EndOf", "FewestTurns")
		}
	}
}

func TestSimpleWays(t *testing.T) {
	n := net(t, ringText)
	setting := []int64{0, 1, 2, 3, -1}
	for _, way := range simpleWays() {
		calls := routeCalls(n, setting, 0, 0, way)
		for _, name := range wayCalls {
			check(t, fmt.Sprint(name, way), calls[name][1], int64(impl.OK))
		}
	}
	for _, way := range otherWays() {
		checkErrorResults(t, routeCalls(n, setting, 0, 0, way), impl.ErrRange, wayCalls...)
		// One of several ways, wherever it is, and also behind two that clash.
		for place := range 20 {
			ways := slices.Repeat([][]int64{{0}}, 20)
			ways[place] = way
			fit, code := impl.WaysFit(n, ways)
			check(t, brief(way), []any{fit, code}, []any{false, int64(impl.ErrRange)})
		}
		fit, code := impl.WaysFit(n, [][]int64{{2}, {4}, way})
		check(t, brief(way), []any{fit, code}, []any{false, int64(impl.ErrRange)})
	}
	parallel := net(t, "3: 0>1*1 0>1*1 1>2*1")
	for _, way := range [][]int64{{0, 1}, {1, 0}, {0, 0}, {0, 1, 2}} {
		checkErrorResults(t, routeCalls(parallel, stopped(parallel), 0, 0, way), impl.ErrRange, wayCalls...)
	}
}
