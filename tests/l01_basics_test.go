package tests

import (
	"fmt"
	"math"
	"strings"
	"testing"

	"loop.example/g01046/impl"
)

var hostileTexts = []string{"", " ", "  ", "-", "--", "\x00", "\n", "\xff", "\xc3", "é", "\u00a0", "\ufffd", "a\xffb", "0", "-0", "+0", "1_0", "0x1", "１", "tube-3", strings.Repeat("a", 100000), strings.Repeat("9", 100000), strings.Repeat(" ", 100000)}

func TestCodes(t *testing.T) {
	check(t, "codes", []int64{impl.OK, impl.ErrInvalid, impl.ErrRange, impl.ErrNotFound, impl.ErrExists, impl.ErrFull, impl.ErrState, impl.ErrSyntax, impl.ErrFormat, impl.ErrClash, impl.ErrStuck}, []int64{0, 1, 2, 3, 4, 5, 6, 7, 8, 9, 10})
	check(t, "MaxName", impl.MaxName, 12)
}

func TestCodeName(t *testing.T) {
	for i, want := range []string{"ok", "invalid", "range", "not-found", "exists", "full", "state", "syntax", "format", "clash", "stuck"} {
		check(t, fmt.Sprint(i), impl.CodeName(int64(i)), want)
	}
	for _, code := range []int64{-1, 11, 12, 256, 1 << 32, math.MinInt64, math.MaxInt64} {
		check(t, fmt.Sprint(code), impl.CodeName(code), "")
	}
}

func TestIsName(t *testing.T) {
	for _, s := range []string{"tube-3", "a", "z", "a0", "a9", "z-", "a--", "abcdefghijkl", "a-0123456789"} {
		check(t, s, impl.IsName(s), true)
	}
	wrong := []string{"", "3", "-", "3a", "-a", "A", "aB", "a_b", "a b", " a", "a ", "a.", "a`", "a{", "a/", "a:", "a\n", "a\x00", "abcdefghijklm", "é", "aé", "a１", "ａ", "a–", "a\xff", "\xffa", "aaaaaaaaaaé", "ß", "ſ"}
	for _, s := range wrong {
		check(t, fmt.Sprintf("%q", s), impl.IsName(s), false)
	}
}

func TestDecimal(t *testing.T) {
	for n, want := range map[int64]string{0: "0", 7: "7", -7: "-7", 10: "10", -100: "-100", 2000: "2000", math.MaxInt64: "9223372036854775807", math.MinInt64: "-9223372036854775808"} {
		check(t, want, impl.Decimal(n), want)
	}
}

func TestReadDecimal(t *testing.T) {
	for s, want := range map[string]int64{"0": 0, "7": 7, "-7": -7, "10": 10, "-100": -100, "999999999999999999": 999999999999999999, "-999999999999999999": -999999999999999999, "100000000000000000": 100000000000000000} {
		n, ok := impl.ReadDecimal(s)
		check(t, s, []any{n, ok}, []any{want, true})
	}
	wrong := []string{"", "-", "+", "+1", "-0", "00", "01", "-01", "--1", "1-", "1 ", " 1", "1\n", "1.0", "1e3", "1_000", "0x1", "0b1", "a", "１", "1\x00", "\xff", "1000000000000000000", "-1000000000000000000", "000000000000000001", "0000000000000000001", "9223372036854775807", "-9223372036854775808", "9223372036854775808", "18446744073709551617", strings.Repeat("1", 1000)}
	for _, s := range wrong {
		n, ok := impl.ReadDecimal(s)
		check(t, fmt.Sprintf("%q", s), []any{n, ok}, []any{int64(0), false})
	}
}

func TestReadDecimalOfDecimal(t *testing.T) {
	for power := int64(1); power <= 100000000000000000; power *= 10 {
		for _, n := range []int64{power - 1, power, power + 1, -power + 1, -power, -power - 1} {
			back, ok := impl.ReadDecimal(impl.Decimal(n))
			check(t, fmt.Sprint(n), []any{back, ok}, []any{n, true})
		}
	}
}

func TestSplitWords(t *testing.T) {
	cases := map[string][]string{
		"":                nil,
		" ":               nil,
		"   ":             nil,
		"a":               {"a"},
		" a":              {"a"},
		"a ":              {"a"},
		"a b":             {"a", "b"},
		"  a   b c  ":     {"a", "b", "c"},
		"b a b":           {"b", "a", "b"},
		"a\tb c\nd\re":    {"a\tb", "c\nd\re"},
		"\t \n":           {"\t", "\n"},
		"a\x00b c":        {"a\x00b", "c"},
		"é\u00a0ß ü":      {"é\u00a0ß", "ü"},
		"a\u2003b\u3000":  {"a\u2003b\u3000"},
		"\xff \xc3 a\xff": {"\xff", "\xc3", "a\xff"},
		"\xe2\x80 \x80":   {"\xe2\x80", "\x80"},
	}
	for s, want := range cases {
		check(t, fmt.Sprintf("%q", s), impl.SplitWords(s), want)
	}
}

// Promise 1 for chapter 1.
func TestBasicsReturnEquals(t *testing.T) {
	for _, s := range hostileTexts {
		n, ok := impl.ReadDecimal(s)
		again, okAgain := impl.ReadDecimal(s)
		check(t, "ReadDecimal", []any{again, okAgain}, []any{n, ok})
		check(t, "IsName", impl.IsName(s), impl.IsName(s))
		words := impl.SplitWords(s)
		want := strings.Join(words, " ")
		check(t, "SplitWords", impl.SplitWords(s), words)
		for i := range words {
			words[i] = "changed"
		}
		check(t, "SplitWords after a change", strings.Join(impl.SplitWords(s), " "), want)
	}
	for _, n := range hostileNumbers {
		check(t, "CodeName", impl.CodeName(n), impl.CodeName(n))
		check(t, "Decimal", impl.Decimal(n), fmt.Sprint(n))
	}
}
