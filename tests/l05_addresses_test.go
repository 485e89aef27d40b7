package tests

import (
	"fmt"
	"math"
	"slices"
	"strings"
	"testing"

	"loop.example/g01046/impl"
)

// exampleWords are the addresses of the chapter's example.
func exampleWords() []string { return []string{"aaa", "abb", "bab"} }

// wordsBySpec are all words with so many letters, counted up like numbers.
func wordsBySpec(signs, rings int) []string {
	count := 1
	for range rings {
		count *= signs
	}
	var list []string
	for n := range count {
		word := make([]byte, rings)
		for place := rings - 1; place >= 0; place-- {
			word[place] = byte('a' + n%signs)
			n /= signs
		}
		list = append(list, string(word))
	}
	return list
}

// eights are the first words of two signs and 8 rings.
func eights(count int) []string { return wordsBySpec(2, 8)[:count] }

// wrongWords are no words of 4 signs.
func wrongWords() []string {
	return []string{
		"", "e", "z", "`", "A", "0", " ", "-", "aaaaaaaaa", strings.Repeat("a", 1000000),
		"ae", "ea", "abcde", "a b", " a", "a ", "aB", "a\x00", "\x00", "a\xff", "\xff", "\xe1", "ä", "aä", "ａ", "a\n",
	}
}

var wrongSigns = []int64{math.MinInt64, -2, -1, 0, 1, 5, 6, math.MaxInt64}

// invalidAddresses are no addresses of 3 signs.
func invalidAddresses() [][]string {
	list := [][]string{
		{"d"}, {"a", "d"}, {"abd", "abc"}, {"aaa", "bbb", "adc"},
		{"aa", "a"}, {"a", "aa"}, {"aa", "bb", "aab"}, {"aab", "aa", "bb"}, {"aa", "b", "cc"},
		{"a", "a"}, {"aa", "ab", "aa"}, {"aa", "ab", "ab"}, {"aa", "aa", "ab"},
		{"a", ""}, {"", "a"}, {"", ""}, {"aaaaaaaaa", "bbbbbbbbb"},
		eights(41), eights(42), eights(256), slices.Repeat([]string{"a"}, 41), make([]string, 100000),
		append(eights(39), eights(1)...), append(eights(39), "aaaaaaa"), append(eights(39), "aaaaaaad"),
	}
	for _, word := range wrongWords() {
		list = append(list, []string{word})
	}
	return list
}

// cornerAddresses are valid, with the number of their signs.
func cornerAddresses() map[int64][][]string {
	return map[int64][][]string{
		2: {nil, {}, {"a"}, {"b", "a"}, {"aaaaaaaa"}, {"bbbbbbbb", "aaaaaaaa"}, exampleWords(), eights(40), eights(39), {"aa"}},
		3: {nil, {"c"}, {"c", "a", "b"}, {"abc", "bca", "cab"}, {"aaaaaaaa"}, eights(40), {"cccccccc", "abcabcab"}},
		4: {nil, {"d"}, {"a", "d", "c", "b"}, {"abcd", "dcba"}, {"dddddddd", "abcdabcd"}, eights(40), {"aa"}},
	}
}

func TestAddressLimits(t *testing.T) {
	check(t, "limits", []int64{impl.MaxRings, impl.MaxSigns, impl.MaxAddress, impl.MaxWhole}, []int64{8, 4, 40, 300})
}

func TestExampleOfAddresses(t *testing.T) {
	least, one := impl.LeastDistance(2, exampleWords())
	check(t, "least distance", []int64{least, one}, []int64{2, impl.OK})
	rings, two := impl.CorrectsAll(2, exampleWords())
	check(t, "corrected", []int64{rings, two}, []int64{0, impl.OK})
}

func TestValidAddresses(t *testing.T) {
	for signs, lists := range cornerAddresses() {
		for _, words := range lists {
			for more := signs; more <= 4; more++ {
				check(t, fmt.Sprint(more, words), impl.ValidAddresses(more, words), true)
			}
			for _, wrong := range wrongSigns {
				check(t, fmt.Sprint(wrong, words), impl.ValidAddresses(wrong, words), false)
			}
		}
	}
	for _, words := range invalidAddresses() {
		check(t, fmt.Sprintf("%.60q", words), impl.ValidAddresses(3, words), false)
		check(t, fmt.Sprintf("%.60q", words), impl.ValidAddresses(2, words), false)
	}
}

// Each number of signs has its own last letter.
func TestSignsOfWords(t *testing.T) {
	for signs := int64(2); signs <= 4; signs++ {
		for b := range 256 {
			is := b >= 'a' && int64(b) < 'a'+signs
			for place := range 3 {
				word := []byte("aab")
				word[place] = byte(b)
				check(t, fmt.Sprintf("%d %q", signs, word), impl.ValidAddresses(signs, []string{string(word)}), is)
			}
		}
	}
}

func TestDistanceOf(t *testing.T) {
	for _, c := range []struct {
		a, b string
		want int64
	}{
		{"abb", "bab", 2}, {"a", "a", 0}, {"a", "b", 1}, {"a", "d", 1}, {"abcd", "abcd", 0}, {"abcd", "dcba", 4}, {"abcd", "abcc", 1}, {"abcd", "bbcd", 1},
		{"abab", "baba", 4}, {"aab", "aba", 2}, {"aaaaaaaa", "dddddddd", 8}, {"abcdabcd", "abcdabcd", 0}, {"abcdabcd", "bbcdabca", 2}, {"aaaaaaaa", "aaaabaaa", 1},
	} {
		for _, pair := range [][2]string{{c.a, c.b}, {c.b, c.a}} {
			got, code := impl.DistanceOf(pair[0], pair[1])
			check(t, fmt.Sprint(pair), []int64{got, code}, []int64{c.want, impl.OK})
		}
	}
}

func TestDistanceOfErrors(t *testing.T) {
	both := func(a, b string, want int64) {
		t.Helper()
		for _, pair := range [][2]string{{a, b}, {b, a}} {
			got, code := impl.DistanceOf(pair[0], pair[1])
			check(t, fmt.Sprintf("%.40q", pair), []int64{got, code}, []int64{0, want})
		}
	}
	for _, wrong := range wrongWords() {
		for _, word := range []string{"a", "ab", "abcd", "aaaaaaaa", wrong, wrong + "a"} {
			if word != "a" || wrong != "" {
				both(wrong, word, impl.ErrInvalid)
			}
		}
	}
	both("", "a", impl.ErrInvalid)
	both("", "", impl.ErrInvalid)
	both("ab", "abb", impl.ErrFormat)
	both("a", "aaaaaaaa", impl.ErrFormat)
	both("d", "dd", impl.ErrFormat)
	both("abcdabc", "abcdabcd", impl.ErrFormat)
}

func TestLeastDistance(t *testing.T) {
	for _, c := range []struct {
		signs int64
		words []string
		least int64
		rings int64
	}{
		{2, exampleWords(), 2, 0}, {2, []string{"a", "b"}, 1, 0}, {4, []string{"d", "c", "b", "a"}, 1, 0},
		{2, []string{"aaaaa", "bbbbb"}, 5, 2}, {2, []string{"aaaa", "bbbb"}, 4, 1}, {2, []string{"aaa", "bbb"}, 3, 1}, {2, []string{"aa", "bb"}, 2, 0},
		{2, []string{"aaaaaaaa", "bbbbbbbb"}, 8, 3}, {4, []string{"abcdabcd", "badcbadd"}, 7, 3}, {2, []string{"aaaaaa", "bbbbbb"}, 6, 2},
		// The nearest two may be anywhere.
		{2, []string{"aaaa", "aaab", "bbbb"}, 1, 0}, {2, []string{"aaaa", "bbbb", "aaab"}, 1, 0}, {2, []string{"bbbb", "aaaa", "aaab"}, 1, 0},
		{3, []string{"aaaa", "bbbb", "cccc"}, 4, 1}, {3, []string{"aaaa", "bbbb", "cccb"}, 3, 1},
		{2, eights(40), 1, 0}, {2, eights(2), 1, 0},
	} {
		least, code := impl.LeastDistance(c.signs, c.words)
		check(t, fmt.Sprint(c.words), []int64{least, code}, []int64{c.least, impl.OK})
		rings, code := impl.CorrectsAll(c.signs, c.words)
		check(t, fmt.Sprint(c.words), []int64{rings, code}, []int64{c.rings, impl.OK})
	}
}

func TestNearestAddress(t *testing.T) {
	fives := []string{"aaaaa", "bbbbb"}
	for _, c := range []struct {
		signs          int64
		words          []string
		seen           string
		k, rings, code int64
	}{
		{2, fives, "ababb", 1, 2, impl.OK}, {2, fives, "aaabb", 0, 2, impl.OK}, {2, fives, "aaaaa", 0, 0, impl.OK}, {2, fives, "bbbbb", 1, 0, impl.OK},
		{2, exampleWords(), "abb", 1, 0, impl.OK}, {2, exampleWords(), "aab", 0, 0, impl.ErrClash}, {2, exampleWords(), "bba", 0, 0, impl.ErrClash},
		{2, exampleWords(), "baa", 0, 0, impl.ErrClash}, {2, exampleWords(), "bbb", 0, 0, impl.ErrClash},
		// One address is the nearest one, however far it is.
		{2, []string{"a"}, "a", 0, 0, impl.OK}, {2, []string{"a"}, "b", 0, 1, impl.OK}, {2, []string{"aaaaaaaa"}, "bbbbbbbb", 0, 8, impl.OK},
		{4, []string{"abcd"}, "dcba", 0, 4, impl.OK},
		// Equally near ones clash wherever they are, unless a nearer one is there.
		{2, []string{"aa", "bb"}, "ab", 0, 0, impl.ErrClash}, {2, []string{"aa", "bb", "ba"}, "ab", 0, 0, impl.ErrClash},
		{2, []string{"aa", "bb", "ab"}, "ab", 2, 0, impl.OK}, {2, []string{"ab", "aa", "bb"}, "ab", 0, 0, impl.OK}, {2, []string{"aa", "ab", "bb"}, "ab", 1, 0, impl.OK},
		{3, []string{"ccc", "aab", "abb", "cca"}, "aaa", 1, 1, impl.OK}, {3, []string{"ccc", "aab", "ccb", "caa"}, "aaa", 0, 0, impl.ErrClash},
		{2, []string{"baa", "aab", "bbb"}, "aaa", 0, 0, impl.ErrClash}, {2, []string{"aab", "bbb", "baa"}, "aaa", 0, 0, impl.ErrClash},
		// All are as far as can be.
		{4, []string{"b", "c", "d"}, "a", 0, 0, impl.ErrClash}, {4, []string{"bbbbbbbb", "cccccccc"}, "aaaaaaaa", 0, 0, impl.ErrClash},
		{4, []string{"bbbbbbbb", "cccccccc", "ddddddda"}, "aaaaaaaa", 2, 7, impl.OK},
		// The last of 40 addresses.
		{2, eights(40), eights(40)[39], 39, 0, impl.OK}, {2, eights(40), "bbbbbbbb", 31, 3, impl.OK}, {2, eights(40), "aaaaaaaa", 0, 0, impl.OK},
		{2, eights(40), eights(41)[40], 0, 0, impl.ErrClash}, {2, eights(40), eights(49)[48], 0, 0, impl.ErrClash}, {2, eights(40), eights(104)[103], 39, 1, impl.OK},
		// The errors of seen, with addresses.
		{2, exampleWords(), "ab", 0, 0, impl.ErrFormat}, {2, exampleWords(), "aaaa", 0, 0, impl.ErrFormat}, {2, exampleWords(), "aac", 0, 0, impl.ErrRange},
		{2, exampleWords(), "ac", 0, 0, impl.ErrRange}, {3, exampleWords(), "aac", 0, 1, impl.OK}, {3, exampleWords(), "aad", 0, 0, impl.ErrRange}, {4, exampleWords(), "dad", 0, 0, impl.ErrClash},
		{2, exampleWords(), "", 0, 0, impl.ErrRange}, {2, exampleWords(), "aaaaaaaaa", 0, 0, impl.ErrRange},
		// And without.
		{2, nil, "a", 0, 0, impl.ErrNotFound}, {2, nil, "aaaaaaaa", 0, 0, impl.ErrNotFound}, {2, nil, "c", 0, 0, impl.ErrRange}, {2, nil, "", 0, 0, impl.ErrRange}, {4, []string{}, "d", 0, 0, impl.ErrNotFound},
	} {
		k, rings, code := impl.NearestAddress(c.signs, c.words, c.seen)
		check(t, fmt.Sprint(c.signs, c.words, c.seen), []int64{k, rings, code}, []int64{c.k, c.rings, c.code})
	}
}

func TestMisreadAs(t *testing.T) {
	chain := []string{"aaaa", "aaab", "aabb", "abbb", "bbbb"}
	for _, c := range []struct {
		signs    int64
		words    []string
		k, rings int64
		want     []int64
	}{
		{2, exampleWords(), 0, 0, nil}, {2, exampleWords(), 0, 1, nil}, {2, exampleWords(), 0, 2, []int64{1, 2}}, {2, exampleWords(), 2, 2, []int64{0, 1}}, {2, exampleWords(), 1, 8, []int64{0, 2}},
		{2, []string{"a"}, 0, 0, nil}, {2, []string{"a"}, 0, 8, nil}, {2, []string{"a", "b"}, 0, 0, nil}, {2, []string{"a", "b"}, 0, 1, []int64{1}}, {2, []string{"a", "b"}, 1, 1, []int64{0}},
		{2, chain, 0, 0, nil}, {2, chain, 0, 1, []int64{1}}, {2, chain, 0, 2, []int64{1, 2}}, {2, chain, 0, 3, []int64{1, 2, 3}}, {2, chain, 0, 4, []int64{1, 2, 3, 4}},
		{2, chain, 2, 1, []int64{1, 3}}, {2, chain, 4, 2, []int64{2, 3}}, {2, chain, 4, 8, []int64{0, 1, 2, 3}},
		// They are in the order of the numbers, not of the distances.
		{2, []string{"bbbb", "aaaa", "abbb", "aaab", "aabb"}, 1, 4, []int64{0, 2, 3, 4}}, {2, []string{"bbbb", "aaaa", "abbb", "aaab", "aabb"}, 1, 2, []int64{3, 4}},
		{4, []string{"aaaaaaaa", "dddddddd", "bbbbbbbb"}, 0, 7, nil}, {4, []string{"aaaaaaaa", "dddddddd", "bbbbbbbb"}, 0, 8, []int64{1, 2}},
		{2, eights(40), 39, 8, counted(39)}, {2, eights(40), 0, 1, []int64{1, 2, 4, 8, 16, 32}}, {2, eights(40), 39, 1, []int64{7, 35, 37, 38}},
	} {
		got, code := impl.MisreadAs(c.signs, c.words, c.k, c.rings)
		name := fmt.Sprint(c.words, c.k, c.rings)
		check(t, name, code, int64(impl.OK))
		check(t, name, got, c.want)
	}
}

func TestAddAddress(t *testing.T) {
	for _, c := range []struct {
		signs    int64
		words    []string
		distance int64
		word     string
		code     int64
	}{
		{2, exampleWords(), 1, "aab", impl.OK}, {2, exampleWords(), 2, "bba", impl.OK}, {2, exampleWords(), 3, "", impl.ErrNotFound}, {2, exampleWords(), 8, "", impl.ErrNotFound},
		{2, []string{"a"}, 1, "b", impl.OK}, {2, []string{"b"}, 1, "a", impl.OK}, {2, []string{"a", "b"}, 1, "", impl.ErrNotFound}, {2, []string{"a"}, 2, "", impl.ErrNotFound},
		// More signs give more words.
		{3, []string{"a", "b"}, 1, "c", impl.OK}, {4, []string{"b", "a", "c"}, 1, "d", impl.OK}, {4, []string{"a", "b", "c", "d"}, 1, "", impl.ErrNotFound},
		{2, []string{"aa", "bb"}, 2, "", impl.ErrNotFound}, {3, []string{"aa", "bb"}, 2, "cc", impl.OK}, {4, []string{"cc", "bb"}, 2, "aa", impl.OK},
		// The first word is found wherever the others are; they may be nearer to each other than the distance.
		{2, []string{"bbb", "bba"}, 2, "aaa", impl.OK}, {2, []string{"aaa", "aab"}, 2, "bba", impl.OK}, {2, []string{"aab", "aaa"}, 3, "", impl.ErrNotFound}, {2, []string{"bab", "aba"}, 1, "aaa", impl.OK},
		{2, []string{"bab", "aba"}, 2, "", impl.ErrNotFound},
		// The greatest numbers of words, and the next greater ones.
		{2, []string{"aaaaaaaa"}, 8, "bbbbbbbb", impl.OK}, {2, []string{"bbbbbbbb", "aaaaaaaa"}, 4, "aaaabbbb", impl.OK}, {2, []string{"aaaaaaaa", "bbbbbbbb"}, 5, "", impl.ErrNotFound},
		{3, []string{"aaaaa"}, 5, "bbbbb", impl.OK}, {3, []string{"aaaaaa"}, 1, "", impl.ErrFull}, {3, []string{"aaaaaa"}, 7, "", impl.ErrFull}, {3, []string{"aaaaaaaa"}, 8, "", impl.ErrFull},
		{4, []string{"aaaa"}, 4, "bbbb", impl.OK}, {4, []string{"aaaaa"}, 1, "", impl.ErrFull}, {4, []string{"aaaaa"}, 8, "", impl.ErrFull}, {4, []string{"aaaaaaaa"}, 1, "", impl.ErrFull},
		{2, []string{"aaaaaaa"}, 7, "bbbbbbb", impl.OK},
		// Exactly 40 addresses, and one fewer.
		{2, eights(39), 1, eights(40)[39], impl.OK}, {2, eights(39), 2, "abbaabbb", impl.OK}, {2, eights(40), 1, "", impl.ErrFull}, {2, eights(40), 8, "", impl.ErrFull},
		{4, wordsBySpec(4, 3)[:39], 1, "cbd", impl.OK}, {4, wordsBySpec(4, 3)[:40], 1, "", impl.ErrFull}, {3, wordsBySpec(3, 3), 1, "", impl.ErrNotFound}, {2, wordsBySpec(2, 5), 1, "", impl.ErrNotFound},
		// No addresses.
		{2, nil, 1, "", impl.ErrState}, {4, []string{}, 8, "", impl.ErrState},
	} {
		got, code := impl.AddAddress(c.signs, c.words, c.distance)
		name := fmt.Sprint(c.signs, c.words, c.distance)
		var want []string
		if c.code == impl.OK {
			want = append(slices.Clone(c.words), c.word)
		}
		check(t, name, code, c.code)
		check(t, name, got, want)
	}
}

func TestWorstRing(t *testing.T) {
	for _, c := range []struct {
		signs int64
		words []string
		want  int64
	}{
		{2, []string{"aab", "bbb"}, 0}, {2, []string{"abb", "aab"}, 1}, {2, []string{"aaa", "aab"}, 2}, {2, []string{"aba", "bab"}, 0},
		{2, []string{"a", "b"}, 0}, {4, []string{"d", "b", "c"}, 0}, {2, exampleWords(), 0},
		// Several equally bad ones: the first one.
		{2, []string{"aabb", "abab"}, 1}, {2, []string{"aaaaaaaa", "bbbbbbbb"}, 0}, {2, []string{"aaaaaaaa", "aaaaaaab"}, 7}, {2, []string{"aaaaaaaa", "abaaaaab"}, 1},
		{2, []string{"bba", "bab"}, 1}, {2, []string{"aaa", "bbb", "aab"}, 2}, {2, []string{"aaa", "aba", "aab"}, 1}, {2, []string{"aab", "aaa", "aba"}, 1},
		// Not the place at which most words differ.
		{4, []string{"aaa", "bba", "cca", "dab", "dac"}, 2}, {4, []string{"abc", "bcd", "cda", "dcd"}, 0}, {4, []string{"aabc", "abcd", "acda", "acdb"}, 3},
		{2, eights(40), 2},
		// All are far from each other.
		{2, []string{"aaaaaaaa", "abbbbbbb"}, 1}, {2, []string{"aaaaaaaa", "bbbbbbba"}, 0}, {4, []string{"abcdabcd", "bcdabcda", "cdabcdab"}, 0},
	} {
		got, code := impl.WorstRing(c.signs, c.words)
		check(t, fmt.Sprint(c.words), []int64{got, code}, []int64{c.want, impl.OK})
	}
}

func TestAllWords(t *testing.T) {
	for signs := int64(2); signs <= 4; signs++ {
		for rings := int64(1); rings <= 8; rings++ {
			want, wantCode := wordsBySpec(int(signs), int(rings)), int64(impl.OK)
			if len(want) > 300 {
				want, wantCode = nil, impl.ErrFull
			}
			got, code := impl.AllWords(signs, rings)
			check(t, fmt.Sprint(signs, rings), code, wantCode)
			check(t, fmt.Sprint(signs, rings), got, want)
		}
	}
	few, code := impl.AllWords(3, 2)
	check(t, "3 signs, 2 rings", []any{few, code}, []any{[]string{"aa", "ab", "ac", "ba", "bb", "bc", "ca", "cb", "cc"}, int64(impl.OK)})
}

func TestGreedyCode(t *testing.T) {
	for _, c := range []struct {
		signs, rings, distance int64
		want                   []string
	}{
		{2, 3, 2, []string{"aaa", "abb", "bab", "bba"}}, {2, 1, 1, []string{"a", "b"}}, {4, 1, 1, []string{"a", "b", "c", "d"}},
		{2, 8, 8, []string{"aaaaaaaa", "bbbbbbbb"}}, {3, 2, 2, []string{"aa", "bb", "cc"}}, {4, 4, 4, []string{"aaaa", "bbbb", "cccc", "dddd"}},
		{2, 5, 3, []string{"aaaaa", "aabbb", "bbaab", "bbbba"}}, {3, 5, 5, []string{"aaaaa", "bbbbb", "ccccc"}},
		{2, 8, 5, []string{"aaaaaaaa", "aaabbbbb", "bbbaaabb", "bbbbbbaa"}},
		{2, 8, 1, wordsBySpec(2, 8)}, {3, 5, 1, wordsBySpec(3, 5)}, {4, 4, 1, wordsBySpec(4, 4)},
	} {
		got, code := impl.GreedyCode(c.signs, c.rings, c.distance)
		check(t, fmt.Sprint(c.signs, c.rings, c.distance), []any{got, code}, []any{c.want, int64(impl.OK)})
	}
}

func TestMostAddresses(t *testing.T) {
	for _, c := range []struct {
		signs int64
		most  [][]int64 // for each number of rings and each distance
	}{
		{2, [][]int64{{2}, {4, 2}, {8, 4, 2}, {16, 8, 2, 2}, {32, 16, 4, 2, 2}}},
		{3, [][]int64{{3}, {9, 3}, {27, 9, 3}}},
		{4, [][]int64{{4}, {16, 4}}},
	} {
		for i, row := range c.most {
			for j, want := range row {
				got, code := impl.MostAddresses(c.signs, int64(i)+1, int64(j)+1)
				check(t, fmt.Sprint(c.signs, i+1, j+1), []int64{got, code}, []int64{want, impl.OK})
			}
		}
		for rings := int64(len(c.most)) + 1; rings <= 8; rings++ {
			for distance := int64(1); distance <= rings; distance++ {
				got, code := impl.MostAddresses(c.signs, rings, distance)
				check(t, fmt.Sprint(c.signs, rings, distance), []int64{got, code}, []int64{0, impl.ErrFull})
			}
		}
	}
}

// codeCalls are the functions of codes; each returns its results, the code last.
func codeCalls(signs, rings, distance int64) map[string][]any {
	calls := map[string][]any{}
	put := func(name string, results ...any) { calls[name] = results }
	all, code := impl.AllWords(signs, rings)
	put("AllWords", all, code)
	greedy, code := impl.GreedyCode(signs, rings, distance)
	put("GreedyCode", greedy, code)
	most, code := impl.MostAddresses(signs, rings, distance)
	put("MostAddresses", most, code)
	return calls
}

func TestCodeErrors(t *testing.T) {
	outside := []int64{math.MinInt64, -1, 0, 9, 10, math.MaxInt64}
	for _, signs := range wrongSigns {
		for _, rings := range append([]int64{1, 3, 8}, outside...) {
			for _, distance := range append([]int64{1, 2, 8}, outside...) {
				checkErrorResults(t, codeCalls(signs, rings, distance), impl.ErrRange, "AllWords", "GreedyCode", "MostAddresses")
			}
		}
	}
	for signs := int64(2); signs <= 4; signs++ {
		for _, rings := range outside {
			for _, distance := range append([]int64{1, 2, 8}, outside...) {
				checkErrorResults(t, codeCalls(signs, rings, distance), impl.ErrRange, "AllWords", "GreedyCode", "MostAddresses")
			}
		}
		for rings := int64(1); rings <= 8; rings++ {
			// The distance goes before the number of words.
			for _, distance := range append([]int64{rings + 1}, outside...) {
				checkErrorResults(t, codeCalls(signs, rings, distance), impl.ErrRange, "GreedyCode", "MostAddresses")
			}
			if len(wordsBySpec(int(signs), int(rings))) > 300 {
				checkErrorResults(t, codeCalls(signs, rings, rings), impl.ErrFull, "AllWords", "GreedyCode", "MostAddresses")
			}
		}
	}
}

// addressCalls are the functions that take addresses; each returns its results, the code last.
func addressCalls(signs int64, words []string, seen string, k, rings, distance int64) map[string][]any {
	calls := map[string][]any{}
	put := func(name string, results ...any) { calls[name] = results }
	least, code := impl.LeastDistance(signs, words)
	put("LeastDistance", least, code)
	nearest, far, code := impl.NearestAddress(signs, words, seen)
	put("NearestAddress", nearest, far, code)
	corrected, code := impl.CorrectsAll(signs, words)
	put("CorrectsAll", corrected, code)
	near, code := impl.MisreadAs(signs, words, k, rings)
	put("MisreadAs", near, code)
	more, code := impl.AddAddress(signs, words, distance)
	put("AddAddress", more, code)
	worst, code := impl.WorstRing(signs, words)
	put("WorstRing", worst, code)
	return calls
}

var (
	pairCalls       = []string{"LeastDistance", "CorrectsAll", "WorstRing"}
	allAddressCalls = append([]string{"NearestAddress", "MisreadAs", "AddAddress"}, pairCalls...)
)

func TestInvalidAddresses(t *testing.T) {
	for _, words := range invalidAddresses() {
		for _, number := range []int64{0, 1, 8, -1, 9, 41} {
			for _, seen := range []string{"a", "", "e", "aaaaaaaaa"} {
				checkErrorResults(t, addressCalls(3, words, seen, number, number, number), impl.ErrInvalid, allAddressCalls...)
			}
		}
	}
	for _, signs := range wrongSigns {
		for _, words := range [][]string{nil, {"a"}, {"a", "b"}, exampleWords(), eights(40)} {
			for _, number := range []int64{0, 1, -1, 9} {
				for _, seen := range []string{"a", "aaa", "", "e"} {
					checkErrorResults(t, addressCalls(signs, words, seen, number, number, number), impl.ErrInvalid, allAddressCalls...)
				}
			}
		}
	}
}

func TestFewAddresses(t *testing.T) {
	for signs := int64(2); signs <= 4; signs++ {
		for _, words := range [][]string{nil, {}, {"a"}, {"b"}, {"aaaaaaaa"}} {
			checkErrorResults(t, addressCalls(signs, words, "a", 0, 0, 1), impl.ErrNotFound, pairCalls...)
		}
		// Without addresses, there is none with a number either.
		for _, k := range []int64{0, -1, 1} {
			checkErrorResults(t, addressCalls(signs, nil, "a", k, 0, 1), impl.ErrRange, "MisreadAs")
		}
		checkErrorResults(t, addressCalls(signs, nil, "a", 0, 0, 1), impl.ErrNotFound, "NearestAddress")
		checkErrorResults(t, addressCalls(signs, nil, "a", 0, 0, 1), impl.ErrState, "AddAddress")
	}
}

func TestAddressRangeErrors(t *testing.T) {
	for signs, lists := range cornerAddresses() {
		for _, words := range lists {
			count := int64(len(words))
			for _, seen := range append(wrongWords(), "aa"+string(rune('a'+signs)), string(rune('a'+signs))) {
				checkErrorResults(t, addressCalls(signs, words, seen, 0, 0, 1), impl.ErrRange, "NearestAddress")
			}
			for _, k := range []int64{math.MinInt64, -1, count, count + 1, 40, 41, math.MaxInt64} {
				checkErrorResults(t, addressCalls(signs, words, "a", k, 0, 1), impl.ErrRange, "MisreadAs")
			}
			for _, rings := range []int64{math.MinInt64, -1, 9, 10, math.MaxInt64} {
				checkErrorResults(t, addressCalls(signs, words, "a", 0, rings, 1), impl.ErrRange, "MisreadAs")
			}
			// Also without addresses, and with too many.
			for _, distance := range []int64{math.MinInt64, -1, 0, 9, 10, math.MaxInt64} {
				checkErrorResults(t, addressCalls(signs, words, "a", 0, 0, distance), impl.ErrRange, "AddAddress")
			}
		}
	}
}
