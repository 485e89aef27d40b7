package tests

import (
	"fmt"
	"math/rand/v2"
	"slices"
	"testing"

	"loop.example/g01046/impl"
)

// addressList is addresses with the number of their signs.
type addressList struct {
	signs int64
	words []string
}

func (x addressList) String() string { return fmt.Sprint(x.signs, x.words) }

func drawnWord(r *rand.Rand, signs int64, rings int) string {
	word := make([]byte, rings)
	for place := range word {
		word[place] = byte('a' + r.Int64N(signs))
	}
	return string(word)
}

// drawnAddresses are valid, in no order; they have as many words as are found in some tries.
func drawnAddresses(seed uint64, count int) []addressList {
	r := rand.New(rand.NewPCG(seed, 5))
	var list []addressList
	for range count {
		x := addressList{signs: 2 + r.Int64N(3)}
		rings, most := 1+r.IntN(8), []int{1, 2, 3, 5, 10, 40}[r.IntN(6)]
		for range 60 {
			word := drawnWord(r, x.signs, rings)
			if len(x.words) < most && !slices.Contains(x.words, word) {
				x.words = append(x.words, word)
			}
		}
		list = append(list, x)
	}
	return list
}

// cornerAddressLists are those of cornerAddresses, in one order.
func cornerAddressLists() []addressList {
	var list []addressList
	for signs := int64(2); signs <= 4; signs++ {
		for _, words := range cornerAddresses()[signs] {
			list = append(list, addressList{signs, words})
		}
	}
	return list
}

// distanceBySpec takes the places from both words one by one.
func distanceBySpec(a, b string) int64 {
	if a == "" {
		return 0
	}
	if a[0] == b[0] {
		return distanceBySpec(a[1:], b[1:])
	}
	return 1 + distanceBySpec(a[1:], b[1:])
}

// leastBySpec is the least distance of two words; 99 if there are no two.
func leastBySpec(words []string) int64 {
	least := int64(99)
	for i := range words {
		for j := range i {
			least = min(least, distanceBySpec(words[i], words[j]))
		}
	}
	return least
}

// kinds calls f for all signs, rings and distances.
func kinds(f func(signs, rings, distance int64, words []string)) {
	for signs := int64(2); signs <= 4; signs++ {
		for rings := int64(1); rings <= 8; rings++ {
			for distance := int64(1); distance <= rings; distance++ {
				f(signs, rings, distance, wordsBySpec(int(signs), int(rings)))
			}
		}
	}
}

// Promise 5: a greedy code keeps its distance; and it is the greedy one: each other word is too near to one that was taken before.
func TestGreedyCodesKeepTheirDistance(t *testing.T) {
	kinds(func(signs, rings, distance int64, words []string) {
		name := fmt.Sprint(signs, rings, distance)
		greedy, code := impl.GreedyCode(signs, rings, distance)
		if len(words) > 300 {
			check(t, name, []any{len(greedy), code}, []any{0, int64(impl.ErrFull)})
			return
		}
		check(t, name, code, int64(impl.OK))
		taken := 0
		for _, word := range words {
			tooNear := slices.ContainsFunc(greedy[:taken], func(other string) bool { return distanceBySpec(word, other) < distance })
			isTaken := taken < len(greedy) && greedy[taken] == word
			if isTaken == tooNear {
				t.Errorf("%s: %s is taken: %t, too near: %t", name, word, isTaken, tooNear)
			}
			if isTaken {
				taken++
			}
		}
		check(t, name, taken, len(greedy))
		if least := leastBySpec(greedy); least < distance {
			t.Errorf("%s: the distance %d in %v", name, least, greedy)
		}
	})
}

func TestAddressesOneByOne(t *testing.T) {
	for _, x := range append(cornerAddressLists(), drawnAddresses(1, 600)...) {
		check(t, x.String(), impl.ValidAddresses(x.signs, x.words), true)
		for _, a := range x.words {
			for _, b := range x.words {
				got, code := impl.DistanceOf(a, b)
				check(t, fmt.Sprint(a, b), []int64{got, code}, []int64{distanceBySpec(a, b), impl.OK})
			}
		}
		if len(x.words) >= 2 {
			checkPairs(t, x)
		}
		checkMisread(t, x)
	}
}

// checkPairs is about what two addresses tell.
func checkPairs(t *testing.T, x addressList) {
	t.Helper()
	want := leastBySpec(x.words)
	least, code := impl.LeastDistance(x.signs, x.words)
	check(t, x.String(), []int64{least, code}, []int64{want, impl.OK})
	rings, code := impl.CorrectsAll(x.signs, x.words)
	check(t, x.String(), []int64{rings, code}, []int64{[]int64{0, 0, 0, 1, 1, 2, 2, 3, 3}[want], impl.OK})
	var leasts []int64
	for place := range len(x.words[0]) {
		var left []string
		for _, word := range x.words {
			left = append(left, word[:place]+word[place+1:])
		}
		leasts = append(leasts, leastBySpec(left))
	}
	worst, code := impl.WorstRing(x.signs, x.words)
	check(t, x.String(), []int64{worst, code}, []int64{int64(slices.Index(leasts, slices.Min(leasts))), impl.OK})
}

func checkMisread(t *testing.T, x addressList) {
	t.Helper()
	for k, word := range x.words {
		for rings := range int64(9) {
			var want []int64
			for i, other := range x.words {
				if i != k && distanceBySpec(word, other) <= rings {
					want = append(want, int64(i))
				}
			}
			got, code := impl.MisreadAs(x.signs, x.words, int64(k), rings)
			check(t, fmt.Sprint(x, k, rings), code, int64(impl.OK))
			check(t, fmt.Sprint(x, k, rings), got, want)
		}
	}
}

// checkNearest compares with all distances.
func checkNearest(t *testing.T, x addressList, seen string) {
	t.Helper()
	k, rings, code := impl.NearestAddress(x.signs, x.words, seen)
	want := []int64{0, 0, impl.ErrNotFound}
	if len(x.words) > 0 && len(x.words[0]) != len(seen) {
		want[2] = impl.ErrFormat
	} else if len(x.words) > 0 {
		var distances []int64
		for _, word := range x.words {
			distances = append(distances, distanceBySpec(word, seen))
		}
		least := slices.Min(distances)
		want = []int64{int64(slices.Index(distances, least)), least, impl.OK}
		if slices.Contains(distances[want[0]+1:], least) {
			want = []int64{0, 0, impl.ErrClash}
		}
	}
	check(t, fmt.Sprint(x, seen), []int64{k, rings, code}, want)
}

func TestNearestAddressesOfDrawnWords(t *testing.T) {
	r := rand.New(rand.NewPCG(2, 5))
	for _, x := range append(cornerAddressLists(), drawnAddresses(3, 600)...) {
		for range 20 {
			rings := 1 + r.IntN(8)
			if len(x.words) > 0 && r.IntN(4) > 0 {
				rings = len(x.words[0])
			}
			checkNearest(t, x, drawnWord(r, x.signs, rings))
		}
	}
	for signs := int64(2); signs <= 4; signs++ {
		for _, seen := range wordsBySpec(int(signs), 3) {
			checkNearest(t, addressList{signs, exampleWords()}, seen)
		}
	}
}

// misreadings calls f for each word that differs from a word at just so many places.
func misreadings(signs int64, word string, rings int64, f func(seen string)) {
	if rings == 0 {
		f(word)
		return
	}
	for place := range word {
		for letter := byte('a'); int64(letter) < 'a'+signs; letter++ {
			if letter != word[place] {
				misreadings(signs, word[place+1:], rings-1, func(rest string) { f(word[:place] + string(letter) + rest) })
			}
		}
	}
}

// checkCorrected misreads all addresses in all ways that can be corrected, and the nearest two in one ring more.
func checkCorrected(t *testing.T, x addressList) {
	t.Helper()
	most, code := impl.CorrectsAll(x.signs, x.words)
	check(t, x.String(), code, int64(impl.OK))
	for k, word := range x.words {
		for rings := range most + 1 {
			misreadings(x.signs, word, rings, func(seen string) {
				got, far, code := impl.NearestAddress(x.signs, x.words, seen)
				check(t, fmt.Sprint(x, seen), []int64{got, far, code}, []int64{int64(k), rings, impl.OK})
			})
		}
	}
	a, b := nearestPair(x.words)
	between := []byte(x.words[a])
	for place, changed := 0, int64(0); changed <= most; place++ {
		if between[place] != x.words[b][place] {
			between[place] = x.words[b][place]
			changed++
		}
	}
	got, _, code := impl.NearestAddress(x.signs, x.words, string(between))
	if code == impl.OK && got == int64(a) {
		t.Errorf("%v: more than %d misread rings are corrected in %s", x, most, between)
	}
}

func nearestPair(words []string) (int, int) {
	least := leastBySpec(words)
	for i := range words {
		for j := range i {
			if distanceBySpec(words[i], words[j]) == least {
				return i, j
			}
		}
	}
	return 0, 0
}

// Promise 5: few misread rings are corrected by the nearest address.
func TestFewMisreadRingsAreCorrected(t *testing.T) {
	corrected := map[int64]int{}
	lists := drawnAddresses(4, 400)
	kinds(func(signs, rings, distance int64, _ []string) {
		greedy, code := impl.GreedyCode(signs, rings, distance)
		if code == impl.OK {
			lists = append(lists, addressList{signs, greedy[:min(40, len(greedy))]})
		}
	})
	for _, x := range lists {
		if len(x.words) >= 2 {
			checkCorrected(t, x)
			most, _ := impl.CorrectsAll(x.signs, x.words)
			corrected[most]++
		}
	}
	for most := range int64(4) {
		if corrected[most] < 3 {
			t.Errorf("only %d lists correct %d misread rings", corrected[most], most)
		}
	}
}

// Each word that is added is the first one that keeps the distance, until there is none.
func TestAddressesAreAddedOneByOne(t *testing.T) {
	for i, x := range append(cornerAddressLists(), drawnAddresses(5, 300)...) {
		distance := int64(1 + i%8)
		for len(x.words) > 0 {
			more, code := impl.AddAddress(x.signs, x.words, distance)
			want, wantCode := addedBySpec(x, distance)
			check(t, fmt.Sprint(x, distance), code, wantCode)
			check(t, fmt.Sprint(x, distance), more, want)
			if code != impl.OK {
				break
			}
			x.words = more
		}
	}
}

func addedBySpec(x addressList, distance int64) ([]string, int64) {
	words := wordsBySpec(int(x.signs), len(x.words[0]))
	if len(x.words) >= 40 || len(words) > 300 {
		return nil, impl.ErrFull
	}
	for _, word := range words {
		if !slices.ContainsFunc(x.words, func(other string) bool { return distanceBySpec(word, other) < distance }) {
			return slices.Concat(x.words, []string{word}), impl.OK
		}
	}
	return nil, impl.ErrNotFound
}

// A greedy code comes about by adding one address after the other to the first word.
func TestGreedyCodesAreAdded(t *testing.T) {
	kinds(func(signs, rings, distance int64, words []string) {
		greedy, code := impl.GreedyCode(signs, rings, distance)
		if code != impl.OK {
			return
		}
		added := words[:1]
		for len(added) < 40 {
			more, code := impl.AddAddress(signs, added, distance)
			if code != impl.OK {
				check(t, fmt.Sprint(signs, rings, distance), code, int64(impl.ErrNotFound))
				check(t, fmt.Sprint(signs, rings, distance), added, greedy)
				return
			}
			added = more
		}
		check(t, fmt.Sprint(signs, rings, distance), added, greedy[:40])
	})
}

// mostBySpec goes through all codes that go on with some of the words.
func mostBySpec(taken, words []string, distance int64) int64 {
	most := int64(len(taken))
	for i, word := range words {
		if !slices.ContainsFunc(taken, func(other string) bool { return distanceBySpec(word, other) < distance }) {
			most = max(most, mostBySpec(append(taken, word), words[i+1:], distance))
		}
	}
	return most
}

func TestMostAddressesOfAllCodes(t *testing.T) {
	kinds(func(signs, rings, distance int64, words []string) {
		if len(words) > 32 {
			return
		}
		name := fmt.Sprint(signs, rings, distance)
		got, code := impl.MostAddresses(signs, rings, distance)
		check(t, name, code, int64(impl.OK))
		greedy, _ := impl.GreedyCode(signs, rings, distance)
		if got < int64(len(greedy)) {
			t.Errorf("%s: %d, but %v", name, got, greedy)
		}
		// With the distance 1, there are too many codes, and all words are one.
		if distance == 1 {
			check(t, name, got, int64(len(words)))
			return
		}
		check(t, name, got, mostBySpec(nil, words, distance))
	})
}

// addressResults calls every function of chapter 5.
func addressResults(x addressList, seen string, k, rings, distance int64) []any {
	all := []any{impl.ValidAddresses(x.signs, x.words)}
	for _, a := range append(slices.Clone(x.words[:min(50, len(x.words))]), seen) {
		far, code := impl.DistanceOf(a, seen)
		all = append(all, far, code)
	}
	calls := addressCalls(x.signs, x.words, seen, k, rings, distance)
	for _, name := range allAddressCalls {
		all = append(all, calls[name]...)
	}
	calls = codeCalls(x.signs, rings, distance)
	for _, name := range []string{"AllWords", "GreedyCode", "MostAddresses"} {
		all = append(all, calls[name]...)
	}
	return all
}

// Promise 1 for chapter 5.
func TestAddressesKeepArguments(t *testing.T) {
	r := rand.New(rand.NewPCG(6, 5))
	lists := append(cornerAddressLists(), drawnAddresses(7, 100)...)
	for _, words := range invalidAddresses() {
		lists = append(lists, addressList{3, words})
	}
	for _, signs := range wrongSigns {
		lists = append(lists, addressList{signs, exampleWords()}, addressList{signs, nil})
	}
	for _, x := range lists {
		for range 15 {
			seen := wrongWords()[r.IntN(len(wrongWords()))]
			if len(x.words) > 0 && r.IntN(3) > 0 {
				seen = drawnWord(r, 2, min(9, len(x.words[0])))
			}
			k, rings, distance := hostileNumbers[r.IntN(len(hostileNumbers))], hostileNumbers[r.IntN(len(hostileNumbers))], hostileNumbers[r.IntN(len(hostileNumbers))]
			if r.IntN(3) > 0 {
				k, rings, distance = r.Int64N(int64(len(x.words))+1), 1+r.Int64N(8), 1+r.Int64N(4)
			}
			checkAddressesKept(t, x, seen, k, rings, distance)
		}
	}
}

func checkAddressesKept(t *testing.T, x addressList, seen string, k, rings, distance int64) {
	t.Helper()
	words, changed := guarded(x.words, "filler")
	given := addressList{x.signs, words}
	checkResultsKept(t, brief(x, seen, k, rings, distance), func() []any { return addressResults(given, seen, k, rings, distance) }, changed)
}
