package impl

import (
	"strconv"
	"strings"
)

const MaxString = 4000
const MaxDecimal = 999999

const (
	checksumMark    = "#"
	checksumStart   = 7
	checksumFactor  = 41
	checksumModulus = 999979
)

// FormatInt returns the decimal representation of n and true. If n is outside
// -MaxDecimal..MaxDecimal it returns the empty string and false. The representation has no
// leading zeros; a negative number starts with `-`.
func FormatInt(n int) (string, bool) {
	if n < -MaxDecimal || n > MaxDecimal {
		return "", false
	}
	return strconv.Itoa(n), true
}

// ParseInt is the inverse of FormatInt: it returns the integer n for which FormatInt(n) is s,
// and true. For any other string, including strings with leading zeros, a leading `+`, or `-0`,
// it returns 0 and false.
func ParseInt(s string) (int, bool) {
	n := readDecimal(s)
	// Only the spelling that FormatInt writes counts, so writing n again refuses all others.
	text, ok := FormatInt(n)
	if !ok || text != s {
		return 0, false
	}
	return n, true
}

// readDecimal reads the number at the start of s. It stops as soon as s can be no number of
// FormatInt, so that n cannot overflow; what it has read by then never has s as its text.
func readDecimal(s string) int {
	n, sign := 0, 1
reading:
	for i := range len(s) {
		switch c := s[i]; {
		case c == '-' && i == 0:
			sign = -1
		case c < '0' || c > '9' || n > MaxDecimal:
			break reading
		default:
			n = 10*n + int(c-'0')
		}
	}
	return sign * n
}

// SplitString splits s, which must have at most MaxString bytes, at every occurrence of the
// single-byte separator sep, and returns the substrings between the separators in order, and
// true. The result has one element more than s has separators, so the empty string yields one
// empty element. If s is too long or sep does not consist of exactly one byte, it returns an
// empty slice and false.
func SplitString(s string, sep string) ([]string, bool) {
	if len(s) > MaxString || len(sep) != 1 {
		return []string{}, false
	}
	parts := []string{}
	for part := range strings.SplitSeq(s, sep) {
		// A part is a piece of the memory of s, which a result must not share.
		parts = append(parts, strings.Clone(part))
	}
	return parts, true
}

// JoinStrings is the inverse of SplitString: it returns the elements of parts concatenated with
// sep between consecutive elements, and true. It returns the empty string and false if parts is
// empty, if sep does not consist of exactly one byte, if an element contains sep, or if the
// result would have more than MaxString bytes.
func JoinStrings(parts []string, sep string) (string, bool) {
	if len(parts) == 0 || len(sep) != 1 {
		return "", false
	}
	length := len(parts) - 1
	for _, part := range parts {
		// Compared at each element, so that the sum of many long ones cannot overflow.
		length += len(part)
		if length > MaxString || strings.Contains(part, sep) {
			return "", false
		}
	}
	// strings.Join gives out a single element itself, and not a copy of it.
	return strings.Clone(strings.Join(parts, sep)), true
}

// LessString reports whether a is lexicographically less than b, comparing byte by byte; a
// proper prefix is less than the longer string.
func LessString(a string, b string) bool { return a < b }

// Checksum returns the checksum of s and true. The checksum starts at 7 and is updated for
// every byte c of s, in order, to (41*h + c + 1) modulo 999979. If s has more than MaxString
// bytes, it returns 0 and false.
func Checksum(s string) (int, bool) {
	if len(s) > MaxString {
		return 0, false
	}
	h := checksumStart
	for i := range len(s) {
		h = (checksumFactor*h + int(s[i]) + 1) % checksumModulus
	}
	return h, true
}

// AppendChecksum returns s followed by `#` and the decimal checksum of s, and true. It returns
// the empty string and false if s contains `#` or if s or the result has more than MaxString
// bytes.
func AppendChecksum(s string) (string, bool) {
	sum, ok := Checksum(s)
	if !ok || strings.Contains(s, checksumMark) {
		return "", false
	}
	// The modulus is at most MaxDecimal, so each checksum has a text.
	digits, _ := FormatInt(sum)
	sealed := s + checksumMark + digits
	if len(sealed) > MaxString {
		return "", false
	}
	return sealed, true
}

// VerifyChecksum is the inverse of AppendChecksum: it returns the string t for which
// AppendChecksum(t) is s, and true. If there is no such string, it returns the empty string and
// false.
func VerifyChecksum(s string) (string, bool) {
	// Without the mark, the text is all of s, and its sealed form is longer than s.
	text, _, _ := strings.Cut(s, checksumMark)
	sealed, ok := AppendChecksum(text)
	if !ok || sealed != s {
		return "", false
	}
	// The text is a piece of the memory of s, which a result must not share.
	return strings.Clone(text), true
}
