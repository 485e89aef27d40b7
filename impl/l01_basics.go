package impl

import (
	"strconv"
	"strings"
)

// Codes, in the order of their values.
const (
	OK = iota
	ErrInvalid
	ErrRange
	ErrNotFound
	ErrExists
	ErrFull
	ErrState
	ErrSyntax
	ErrFormat
	ErrClash
	ErrStuck
)

// Limits of texts.
const (
	MaxName = 12

	maxDigits = 18
)

var codeNames = [...]string{
	OK:          "ok",
	ErrInvalid:  "invalid",
	ErrRange:    "range",
	ErrNotFound: "not-found",
	ErrExists:   "exists",
	ErrFull:     "full",
	ErrState:    "state",
	ErrSyntax:   "syntax",
	ErrFormat:   "format",
	ErrClash:    "clash",
	ErrStuck:    "stuck",
}

// CodeName returns the name of a code, and the empty string for a number that is none.
func CodeName(code int64) string {
	if code < 0 || code >= int64(len(codeNames)) {
		return ""
	}
	return codeNames[code]
}

// IsName reports whether s is a name: 1 to MaxName small letters, digits and hyphens, a letter first.
func IsName(s string) bool {
	if s == "" || len(s) > MaxName {
		return false
	}
	for i, r := range s {
		if !isSmallLetter(r) && (i == 0 || !isDigit(r) && r != '-') {
			return false
		}
	}
	return true
}

func isSmallLetter(r rune) bool { return 'a' <= r && r <= 'z' }

func isDigit(r rune) bool { return '0' <= r && r <= '9' }

// Decimal returns the decimal form of a number.
func Decimal(n int64) string { return strconv.FormatInt(n, 10) }

func writeDecimal(b *strings.Builder, n int64) { b.WriteString(Decimal(n)) }

// ReadDecimal returns the number of at most 18 digits with a decimal form.
func ReadDecimal(s string) (int64, bool) {
	if len(strings.TrimPrefix(s, "-")) > maxDigits {
		return 0, false
	}
	n, err := strconv.ParseInt(s, 10, 64)
	// ParseInt also reads forms that Decimal never writes, such as +1, 01 and -0.
	if err != nil || Decimal(n) != s {
		return 0, false
	}
	return n, true
}

// SplitWords returns the longest parts of a text without blanks, in order.
func SplitWords(s string) []string {
	return strings.FieldsFunc(s, isBlank)
}

func isBlank(r rune) bool { return r == ' ' }
