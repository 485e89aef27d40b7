package impl

import (
	"container/heap"
	"slices"
	"strings"
)

// Limits of networks.
const (
	MaxStations = 10
	MaxTubes    = 24
	MaxLength   = 2000
)

// Tube leads from a station to another one.
type Tube struct {
	From   int64
	To     int64
	Length int64
}

// Net has stations and tubes.
type Net struct {
	Stations int64
	Tubes    []Tube
}

// Fraction is a rational number.
type Fraction struct {
	Num int64
	Den int64
}

// ValidNet reports whether n is valid.
func ValidNet(n Net) bool {
	if n.Stations < 2 || n.Stations > MaxStations || len(n.Tubes) > MaxTubes {
		return false
	}
	for _, t := range n.Tubes {
		if !fitsNet(n, t) {
			return false
		}
	}
	return true
}

// fitsNet reports whether t can be a tube between the stations of n.
func fitsNet(n Net, t Tube) bool {
	return isStation(n, t.From) && isStation(n, t.To) && t.From != t.To &&
		1 <= t.Length && t.Length <= MaxLength
}

func isStation(n Net, station int64) bool { return 0 <= station && station < n.Stations }

func isTube(n Net, tube int64) bool { return 0 <= tube && tube < int64(len(n.Tubes)) }

// SameNet reports whether two networks are equal.
func SameNet(a, b Net) bool {
	return a.Stations == b.Stations && slices.Equal(a.Tubes, b.Tubes)
}

// checkStations returns the code for a network and numbers that should be stations of it.
func checkStations(n Net, stations ...int64) int64 {
	if !ValidNet(n) {
		return ErrInvalid
	}
	for _, station := range stations {
		if !isStation(n, station) {
			return ErrRange
		}
	}
	return OK
}

// AddTube returns the network with one more tube.
func AddTube(n Net, t Tube) (Net, int64) {
	if !ValidNet(n) {
		return Net{}, ErrInvalid
	}
	if !fitsNet(n, t) {
		return Net{}, ErrRange
	}
	if len(n.Tubes) == MaxTubes {
		return Net{}, ErrFull
	}
	return Net{Stations: n.Stations, Tubes: append(slices.Clone(n.Tubes), t)}, OK
}

// tubesBy maps each station to the tubes for which end tells it, in ascending order.
func tubesBy(n Net, end func(Tube) int64) map[int64][]int64 {
	tubes := map[int64][]int64{}
	for i, t := range n.Tubes {
		tubes[end(t)] = append(tubes[end(t)], int64(i))
	}
	return tubes
}

func tubesByFrom(n Net) map[int64][]int64 {
	return tubesBy(n, func(t Tube) int64 { return t.From })
}

func tubesByTo(n Net) map[int64][]int64 {
	return tubesBy(n, func(t Tube) int64 { return t.To })
}

// TubesFrom returns the tubes that begin at a station.
func TubesFrom(n Net, station int64) ([]int64, int64) {
	if code := checkStations(n, station); code != OK {
		return nil, code
	}
	return tubesByFrom(n)[station], OK
}

// ReachedFrom returns the stations that one reaches.
func ReachedFrom(n Net, station int64) ([]int64, int64) {
	if code := checkStations(n, station); code != OK {
		return nil, code
	}
	return reachedFrom(n, station), OK
}

// reachedFrom returns the stations to which there is a way from start, in ascending order.
func reachedFrom(n Net, start int64) []int64 {
	tubes := tubesByFrom(n)
	seen := map[int64]bool{}
	var reached []int64
	var visit func(station int64)
	visit = func(station int64) {
		if seen[station] {
			return
		}
		seen[station] = true
		reached = append(reached, station)
		for _, tube := range tubes[station] {
			visit(n.Tubes[tube].To)
		}
	}
	visit(start)
	slices.Sort(reached)
	return reached
}

// IsStrong reports whether one gets from each station to each other one.
func IsStrong(n Net) (bool, int64) {
	if !ValidNet(n) {
		return false, ErrInvalid
	}
	return isStrong(n), OK
}

func isStrong(n Net) bool {
	for station := range n.Stations {
		if int64(len(reachedFrom(n, station))) < n.Stations {
			return false
		}
	}
	return true
}

// CriticalTubes returns the tubes without which a network is not strong.
func CriticalTubes(n Net) ([]int64, int64) {
	if !ValidNet(n) {
		return nil, ErrInvalid
	}
	if !isStrong(n) {
		return nil, ErrState
	}
	var critical []int64
	for i := range n.Tubes {
		if !isStrong(withoutTube(n, i)) {
			critical = append(critical, int64(i))
		}
	}
	return critical, OK
}

func withoutTube(n Net, i int) Net {
	return Net{Stations: n.Stations, Tubes: slices.Concat(n.Tubes[:i], n.Tubes[i+1:])}
}

// seenStation is a station and the length of a way from it.
type seenStation struct {
	station int64
	length  int64
}

// pile is what heaps have in common: all but the order.
type pile[E any] []E

// Len returns how many elements there are.
func (p pile[E]) Len() int { return len(p) }

// Swap exchanges two elements.
func (p pile[E]) Swap(i, j int) { p[i], p[j] = p[j], p[i] }

// Push puts one more element at the end.
func (p *pile[E]) Push(x any) { *p = append(*p, x.(E)) }

// Pop takes the element at the end.
func (p *pile[E]) Pop() any {
	last := len(*p) - 1
	x := (*p)[last]
	*p = (*p)[:last]
	return x
}

// nearestFirst is a heap with the least length on top.
type nearestFirst struct{ pile[seenStation] }

func (h nearestFirst) Less(i, j int) bool { return h.pile[i].length < h.pile[j].length }

// lengthsTo returns for each station the least length of a way from it to a station; -1 if there is none.
func lengthsTo(n Net, to int64) []int64 {
	tubes := tubesByTo(n)
	lengths := slices.Repeat([]int64{-1}, int(n.Stations))
	open := &nearestFirst{pile[seenStation]{{station: to}}}
	for open.Len() > 0 {
		x := heap.Pop(open).(seenStation)
		if lengths[x.station] >= 0 {
			continue
		}
		lengths[x.station] = x.length
		for _, tube := range tubes[x.station] {
			t := n.Tubes[tube]
			heap.Push(open, seenStation{station: t.From, length: x.length + t.Length})
		}
	}
	return lengths
}

// ShortestLength returns the least length from a station to another one.
func ShortestLength(n Net, from, to int64) (int64, int64) {
	if code := checkStations(n, from, to); code != OK {
		return 0, code
	}
	length := lengthsTo(n, to)[from]
	if length < 0 {
		return 0, ErrNotFound
	}
	return length, OK
}

// ShortestWay returns the tubes of the shortest way.
func ShortestWay(n Net, from, to int64) ([]int64, int64) {
	if code := checkStations(n, from, to); code != OK {
		return nil, code
	}
	way, ok := shortestWay(n, from, to)
	if !ok {
		return nil, ErrNotFound
	}
	return way, OK
}

// shortestWay returns the first of the shortest ways, and whether there is one; tubes may be longer than in a valid network.
func shortestWay(n Net, from, to int64) ([]int64, bool) {
	lengths := lengthsTo(n, to)
	if lengths[from] < 0 {
		return nil, false
	}
	tubes := tubesByFrom(n)
	// No shortest way is the beginning of another one, for each tube has a length:
	// so the least tube at each station leads to the first of them.
	isOnWay := func(tube int64) bool {
		t := n.Tubes[tube]
		return lengths[t.To] >= 0 && t.Length+lengths[t.To] == lengths[t.From]
	}
	var way []int64
	for from != to {
		tube := tubes[from][slices.IndexFunc(tubes[from], isOnWay)]
		way = append(way, tube)
		from = n.Tubes[tube].To
	}
	return way, true
}

// IsWay reports whether tubes follow one another from a station to another one.
func IsWay(n Net, way []int64, from, to int64) (bool, int64) {
	if code := checkStations(n, from, to); code != OK {
		return false, code
	}
	for _, tube := range way {
		if !isTube(n, tube) {
			return false, ErrRange
		}
	}
	for _, tube := range way {
		if n.Tubes[tube].From != from {
			return false, OK
		}
		from = n.Tubes[tube].To
	}
	return from == to, OK
}

// NetText returns the text form of a network.
func NetText(n Net) string {
	if !ValidNet(n) {
		return ""
	}
	var b strings.Builder
	writeDecimal(&b, n.Stations)
	b.WriteByte(':')
	for _, t := range n.Tubes {
		b.WriteByte(' ')
		writeDecimal(&b, t.From)
		b.WriteByte('>')
		writeDecimal(&b, t.To)
		b.WriteByte('*')
		writeDecimal(&b, t.Length)
	}
	return b.String()
}

// ReadNet returns the network with a text form.
func ReadNet(s string) (Net, bool) {
	head, rest, _ := strings.Cut(s, ":")
	stations, ok := ReadDecimal(head)
	if !ok {
		return Net{}, false
	}
	n := Net{Stations: stations}
	for _, word := range SplitWords(rest) {
		t, ok := readTube(word)
		if !ok {
			return Net{}, false
		}
		n.Tubes = append(n.Tubes, t)
	}
	// A network that is not valid has the empty text, and s is not empty here.
	if NetText(n) != s {
		return Net{}, false
	}
	return n, true
}

// readTube returns the tube with a text such as 0>1*30; it may fit no network.
func readTube(word string) (Tube, bool) {
	from, rest, _ := strings.Cut(word, ">")
	to, length, _ := strings.Cut(rest, "*")
	var t Tube
	var ok [3]bool
	t.From, ok[0] = ReadDecimal(from)
	t.To, ok[1] = ReadDecimal(to)
	t.Length, ok[2] = ReadDecimal(length)
	return t, ok == [3]bool{true, true, true}
}
