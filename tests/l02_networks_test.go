package tests

import (
	"fmt"
	"slices"
	"strings"
	"testing"

	"loop.example/g01046/impl"
)

const exampleText = "3: 0>1*30 1>2*20 0>2*60"

func example() impl.Net {
	return impl.Net{Stations: 3, Tubes: []impl.Tube{{From: 0, To: 1, Length: 30}, {From: 1, To: 2, Length: 20}, {From: 0, To: 2, Length: 60}}}
}

// net reads a network that a test is about.
func net(t *testing.T, s string) impl.Net {
	t.Helper()
	n, ok := impl.ReadNet(s)
	if !ok {
		t.Fatalf("%q is no network", s)
	}
	return n
}

func TestNetworkLimits(t *testing.T) {
	check(t, "limits", []int{impl.MaxStations, impl.MaxTubes, impl.MaxLength}, []int{10, 24, 2000})
}

func TestValidNet(t *testing.T) {
	for _, n := range append(cornerNets(), example()) {
		check(t, fmt.Sprint(n), impl.ValidNet(n), true)
	}
	for _, n := range invalidNets() {
		check(t, fmt.Sprint(n), impl.ValidNet(n), false)
	}
}

func TestSameNet(t *testing.T) {
	all := slices.Concat(cornerNets(), invalidNets(), []impl.Net{example()})
	for i, a := range all {
		for j, b := range all {
			b.Tubes = slices.Clone(b.Tubes)
			check(t, fmt.Sprint(a, b), impl.SameNet(a, b), i == j)
		}
	}
	check(t, "nil and empty", impl.SameNet(impl.Net{Stations: 2}, impl.Net{Stations: 2, Tubes: []impl.Tube{}}), true)
	for _, other := range []string{"3: 0>1*30 1>2*20 0>2*61", "3: 0>1*30 1>2*20 1>2*60", "3: 0>1*30 1>2*20 0>1*60", "4: 0>1*30 1>2*20 0>2*60", "3: 1>2*20 0>1*30 0>2*60", "3: 0>1*30 1>2*20"} {
		check(t, other, impl.SameNet(example(), net(t, other)), false)
		check(t, other, impl.SameNet(net(t, other), example()), false)
	}
}

func TestAddTube(t *testing.T) {
	last := impl.Tube{From: 2, To: 0, Length: 2000}
	got, code := impl.AddTube(example(), last)
	check(t, "behind the others", []any{got, code}, []any{impl.Net{Stations: 3, Tubes: append(example().Tubes, last)}, int64(impl.OK)})
	got, code = impl.AddTube(impl.Net{Stations: 2}, impl.Tube{From: 0, To: 1, Length: 1})
	check(t, "first one", []any{got, code}, []any{net(t, "2: 0>1*1"), int64(impl.OK)})
	got, code = impl.AddTube(example(), example().Tubes[1])
	check(t, "the same once more", []any{impl.NetText(got), code}, []any{exampleText + " 1>2*20", int64(impl.OK)})
	n := impl.Net{Stations: 10}
	for i := range int64(24) {
		n, code = impl.AddTube(n, impl.Tube{From: i % 2, To: 9, Length: i + 1})
		check(t, "up to the limit", []any{len(n.Tubes), code}, []any{int(i) + 1, int64(impl.OK)})
	}
}

func checkNoTubeAdded(t *testing.T, n impl.Net, tube impl.Tube, want int64) {
	t.Helper()
	got, code := impl.AddTube(n, tube)
	check(t, fmt.Sprint(n, tube), []any{got, code}, []any{impl.Net{}, want})
}

func TestAddTubeErrors(t *testing.T) {
	full := cornerNets()[5]
	checkNoTubeAdded(t, full, impl.Tube{From: 0, To: 1, Length: 1}, impl.ErrFull)
	for _, bad := range []impl.Tube{{}, {From: -1, To: 1, Length: 1}, {From: 0, To: -1, Length: 1}, {From: 10, To: 1, Length: 1}, {From: 0, To: 10, Length: 1}, {From: 1, To: 1, Length: 1}, {From: 0, To: 1, Length: 0}, {From: 0, To: 1, Length: 2001}, {From: 0, To: 1, Length: -1}} {
		checkNoTubeAdded(t, full, bad, impl.ErrRange)
		checkNoTubeAdded(t, example(), bad, impl.ErrRange)
		for _, n := range invalidNets() {
			checkNoTubeAdded(t, n, bad, impl.ErrInvalid)
		}
	}
	for _, n := range invalidNets() {
		checkNoTubeAdded(t, n, impl.Tube{From: 0, To: 1, Length: 1}, impl.ErrInvalid)
	}
}

func TestExampleOfNetworks(t *testing.T) {
	n := net(t, exampleText)
	check(t, "network", n, example())
	way, code := impl.ShortestWay(n, 0, 2)
	check(t, "way", []any{way, code}, []any{[]int64{0, 1}, int64(impl.OK)})
	length, code := impl.ShortestLength(n, 0, 2)
	check(t, "length", []int64{length, code}, []int64{50, impl.OK})
}

func TestTubesFrom(t *testing.T) {
	n := net(t, "4: 2>0*5 0>1*9 2>1*5 0>1*9 1>2*1 0>2*3")
	for station, want := range [][]int64{{1, 3, 5}, {4}, {0, 2}, {}} {
		got, code := impl.TubesFrom(n, int64(station))
		check(t, "code", code, int64(impl.OK))
		check(t, fmt.Sprint(station), got, want)
	}
}

func TestReachedFrom(t *testing.T) {
	n := net(t, "6: 4>2*5 2>0*9 0>4*5 2>3*1 3>1*7 3>1*8")
	for station, want := range [][]int64{{0, 1, 2, 3, 4}, {1}, {0, 1, 2, 3, 4}, {1, 3}, {0, 1, 2, 3, 4}, {5}} {
		got, code := impl.ReachedFrom(n, int64(station))
		check(t, fmt.Sprint(station), []any{got, code}, []any{want, int64(impl.OK)})
	}
}

func TestIsStrong(t *testing.T) {
	for s, want := range map[string]bool{
		"2:":                                   false,
		"2: 0>1*1":                             false,
		"2: 1>0*1":                             false,
		"2: 0>1*1 1>0*1":                       true,
		"3: 0>1*1 1>2*1 2>0*1":                 true,
		"3: 0>1*1 1>0*1 1>2*1":                 false,
		"3: 0>1*1 1>0*1 2>1*1":                 false,
		"3: 0>1*1 1>0*1 1>2*1 2>1*1":           true,
		"4: 0>1*1 1>0*1 2>3*1 3>2*1":           false,
		"4: 0>1*1 1>0*1 2>3*1 3>2*1 1>2*1":     false,
		"4: 3>2*1 2>1*1 1>0*1 0>3*1":           true,
		"3: 0>1*1 1>0*1 0>1*2 1>0*2":           false,
		"10: 0>1*1 1>2*1 2>3*1 3>4*1 4>0*2000": false,
	} {
		got, code := impl.IsStrong(net(t, s))
		check(t, s, []any{got, code}, []any{want, int64(impl.OK)})
	}
}

func TestCriticalTubes(t *testing.T) {
	for s, want := range map[string][]int64{
		"2: 0>1*1 1>0*1":                         {0, 1},
		"2: 0>1*1 1>0*1 0>1*2":                   {1},
		"2: 0>1*1 1>0*1 0>1*2 1>0*9":             {},
		"3: 0>1*1 1>2*1 2>0*1":                   {0, 1, 2},
		"3: 0>2*60 0>1*30 2>0*10 1>2*20":         {1, 2, 3},
		"3: 0>1*1 1>0*1 1>2*1 2>1*1 0>2*1 2>0*1": {},
	} {
		got, code := impl.CriticalTubes(net(t, s))
		check(t, s, code, int64(impl.OK))
		check(t, s, got, want)
	}
	for _, s := range []string{"2:", "2: 0>1*1", exampleText} {
		got, code := impl.CriticalTubes(net(t, s))
		check(t, s, code, int64(impl.ErrState))
		check(t, s, got, []int64(nil))
	}
}

func TestShortestWayOfEqualLengths(t *testing.T) {
	cases := []struct {
		text     string
		from, to int64
		way      []int64
		length   int64
	}{
		{"2: 0>1*5 0>1*5", 0, 1, []int64{0}, 5},
		{"2: 0>1*6 0>1*5 0>1*5", 0, 1, []int64{1}, 5},
		{"3: 0>2*50 0>1*30 1>2*20", 0, 2, []int64{0}, 50},
		{"3: 0>1*30 0>2*50 1>2*20", 0, 2, []int64{0, 2}, 50},
		{"3: 1>2*20 0>2*50 0>1*30", 0, 2, []int64{1}, 50},
		{"4: 0>2*1 0>1*1 1>3*1 2>3*1", 0, 3, []int64{0, 3}, 2},
		{"4: 2>3*1 0>1*1 1>3*1 0>2*1", 0, 3, []int64{1, 2}, 2},
		{"5: 0>4*4 0>1*1 1>2*1 2>3*1 3>4*1", 0, 4, []int64{0}, 4},
		{"5: 0>1*1 1>4*3 1>2*1 2>3*1 3>4*1 0>4*4", 0, 4, []int64{0, 1}, 4},
		{"5: 0>1*1 1>2*1 2>3*1 3>4*1 1>4*3 0>4*4", 0, 4, []int64{0, 1, 2, 3}, 4},
		{"3: 0>1*1 1>0*1 1>2*1", 0, 2, []int64{0, 2}, 2},
		{"3: 0>1*2000 1>2*2000", 0, 2, []int64{0, 1}, 4000},
		{exampleText, 1, 1, nil, 0},
		{"2:", 1, 1, nil, 0},
		{"2: 1>0*1 0>1*1", 1, 1, nil, 0},
	}
	for _, c := range cases {
		n := net(t, c.text)
		way, code := impl.ShortestWay(n, c.from, c.to)
		check(t, c.text, code, int64(impl.OK))
		check(t, c.text, way, c.way)
		length, code := impl.ShortestLength(n, c.from, c.to)
		check(t, c.text, []int64{length, code}, []int64{c.length, impl.OK})
	}
}

func TestNoWay(t *testing.T) {
	for _, c := range []struct {
		text     string
		from, to int64
	}{{"2:", 0, 1}, {"2: 0>1*1", 1, 0}, {exampleText, 2, 0}, {"4: 0>1*1 2>3*1", 0, 3}} {
		way, code := impl.ShortestWay(net(t, c.text), c.from, c.to)
		check(t, c.text, code, int64(impl.ErrNotFound))
		check(t, c.text, way, []int64(nil))
		length, code := impl.ShortestLength(net(t, c.text), c.from, c.to)
		check(t, c.text, []int64{length, code}, []int64{0, impl.ErrNotFound})
	}
}

func TestIsWay(t *testing.T) {
	n := net(t, "3: 0>1*30 1>2*20 0>2*60 2>0*5 0>1*30")
	around := slices.Repeat([]int64{0, 1, 3}, 50)
	cases := []struct {
		way      []int64
		from, to int64
		want     bool
	}{
		{nil, 1, 1, true}, {nil, 0, 1, false}, {[]int64{}, 2, 2, true},
		{[]int64{0, 1}, 0, 2, true}, {[]int64{4, 1}, 0, 2, true}, {[]int64{2}, 0, 2, true},
		{[]int64{0, 1}, 0, 1, false}, {[]int64{0, 1}, 1, 2, false}, {[]int64{1, 0}, 0, 2, false},
		{[]int64{0, 2}, 0, 2, false}, {[]int64{1}, 0, 2, false}, {[]int64{0}, 0, 2, false},
		{[]int64{2, 3}, 0, 0, true}, {[]int64{2, 3, 0}, 0, 1, true}, {[]int64{2, 3, 2}, 0, 2, true},
		{around, 0, 0, true}, {around, 1, 1, false}, {append(around, 2), 0, 2, true},
	}
	for _, c := range cases {
		got, code := impl.IsWay(n, c.way, c.from, c.to)
		check(t, fmt.Sprint(c), []any{got, code}, []any{c.want, int64(impl.OK)})
	}
	for _, way := range [][]int64{{-1}, {5}, {0, 5}, {1, 0, -1}, {0, 1, 1 << 62}, {-1 << 63}} {
		got, code := impl.IsWay(n, way, 0, 2)
		check(t, fmt.Sprint(way), []any{got, code}, []any{false, int64(impl.ErrRange)})
	}
}

// stationCalls are the functions that take a network and a station, or two; each returns its results.
func stationCalls(n impl.Net, a, b int64) map[string][]any {
	calls := map[string][]any{}
	both := func(name string, result any, code int64) { calls[name] = []any{result, code} }
	tubes, code := impl.TubesFrom(n, a)
	both("TubesFrom", tubes, code)
	reached, code := impl.ReachedFrom(n, a)
	both("ReachedFrom", reached, code)
	length, code := impl.ShortestLength(n, a, b)
	both("ShortestLength", length, code)
	way, code := impl.ShortestWay(n, a, b)
	both("ShortestWay", way, code)
	is, code := impl.IsWay(n, []int64{0}, a, b)
	both("IsWay", is, code)
	wrong, code := impl.IsWay(n, []int64{1 << 40}, a, b)
	both("IsWay with no tube", wrong, code)
	return calls
}

func checkErrors(t *testing.T, n impl.Net, a, b, want int64, names ...string) {
	t.Helper()
	calls := stationCalls(n, a, b)
	for _, name := range names {
		x := calls[name]
		check(t, fmt.Sprint(name, n, a, b), []any{isZero(x[0]), x[1]}, []any{true, want})
	}
}

func TestStationErrors(t *testing.T) {
	two := []string{"ShortestLength", "ShortestWay", "IsWay", "IsWay with no tube"}
	all := append([]string{"TubesFrom", "ReachedFrom"}, two...)
	for _, a := range []int64{-1, 3, 10, -1 << 63, 1<<63 - 1} {
		checkErrors(t, example(), a, 0, impl.ErrRange, all...)
		checkErrors(t, example(), 0, a, impl.ErrRange, two...)
		checkErrors(t, example(), a, a, impl.ErrRange, all...)
		for _, n := range invalidNets() {
			checkErrors(t, n, a, a, impl.ErrInvalid, all...)
		}
	}
	for _, n := range invalidNets() {
		checkErrors(t, n, 0, 1, impl.ErrInvalid, all...)
		strong, code := impl.IsStrong(n)
		check(t, "IsStrong", []any{strong, code}, []any{false, int64(impl.ErrInvalid)})
		critical, code := impl.CriticalTubes(n)
		check(t, "CriticalTubes", code, int64(impl.ErrInvalid))
		check(t, "CriticalTubes", critical, []int64(nil))
	}
}

func TestNetText(t *testing.T) {
	check(t, "example", impl.NetText(example()), exampleText)
	check(t, "without tubes", impl.NetText(impl.Net{Stations: 10}), "10:")
	check(t, "one tube", impl.NetText(impl.Net{Stations: 2, Tubes: []impl.Tube{{From: 1, To: 0, Length: 2000}}}), "2: 1>0*2000")
	for _, n := range invalidNets() {
		check(t, fmt.Sprint(n), impl.NetText(n), "")
	}
	for _, n := range append(cornerNets(), drawnNets(200)...) {
		back, ok := impl.ReadNet(impl.NetText(n))
		check(t, impl.NetText(n), []bool{ok, impl.SameNet(back, n)}, []bool{true, true})
	}
}

func TestReadNetOfOtherTexts(t *testing.T) {
	wrong := []string{
		"", ":", " ", "3", "3 ", "3: ", " 3:", "3 :", "03:", "+3:", "-3:", "x:", "3;", "3::", "1:", "0:", "11:", "9999999999999999999:",
		"3:0>1*30", "3:  0>1*30", "3: 0>1*30 ", "3: 0>1*30  1>2*20", "3: 0>1*30\n", "3:\t0>1*30", "3: 0>1*30\t1>2*20", "3: 0>1*30,1>2*20", "3: 0>1*301>2*20",
		"3: 0", "3: 0>", "3: 0>1", "3: 0>1*", "3: 0*1>30", "3: >1*30", "3: 0>*30", "3: 0>1*30*", "3: 0>1>2*30", "3: 0>1*30*5", "3: 0>1*30:", "3: 0-1*30", "3: 0>1x30", "3: > *",
		"3: 00>1*30", "3: 0>01*30", "3: 0>1*030", "3: +0>1*30", "3: 0>1*+30", "3: -0>1*30", "3: 0>1*-30", "3: 0>1*3_0", "3: 0>1*３０",
		"3: 0>1*0", "3: 0>1*2001", "3: 0>0*1", "3: 3>1*1", "3: 1>3*1", "3: -1>1*1", "3: 0>1*99999999999999999999",
		"2:" + strings.Repeat(" 0>1*1", 25), "\xff: 0>1*1", "3: 0>1*30\x00",
	}
	for _, s := range append(wrong, hostileTexts...) {
		n, ok := impl.ReadNet(s)
		check(t, fmt.Sprintf("%.40q", s), []any{n, ok}, []any{impl.Net{}, false})
	}
	n, ok := impl.ReadNet("2:" + strings.Repeat(" 0>1*1", 24))
	check(t, "as many as may be", []any{len(n.Tubes), ok}, []any{24, true})
}
