// Package impl implements a goal-directed language in the tradition of Icon and SNOBOL, one file for each chapter of the specification.
package impl

import "strings"

// 2^63, the size of the least integer, has 19 digits.
const maxDigits = 19

const (
	maxNumberDigits = 6
	maxIntDigits    = 12
	maxJoined       = 1048576
)

// FormatInt returns the decimal representation of n.
func FormatInt(n int) string {
	// The size is unsigned because -n is not an int for the least n.
	size := uint64(n)
	if n < 0 {
		size = -size
	}
	var text [maxDigits + 1]byte
	at := len(text)
	for range maxDigits {
		at--
		text[at] = '0' + byte(size%10)
		size /= 10
		if size == 0 {
			break
		}
	}
	if n < 0 {
		at--
		text[at] = '-'
	}
	return string(text[at:])
}

// ParseNumber returns the integer from 0 to 999999 whose FormatInt is s.
func ParseNumber(s string) (int, bool) {
	return parseDigits(s, maxNumberDigits)
}

// ParseInt returns the integer from -999999999999 to 999999999999 whose FormatInt is s.
func ParseInt(s string) (int, bool) {
	digits, negative := strings.CutPrefix(s, "-")
	n, ok := parseDigits(digits, maxIntDigits)
	if !negative {
		return n, ok
	}
	// FormatInt writes no "-0".
	return -n, ok && n != 0
}

// parseDigits returns the integer with 1 to most digits whose FormatInt is s.
func parseDigits(s string, most int) (int, bool) {
	if strings.HasPrefix(s, "0") && s != "0" {
		return 0, false
	}
	return digitsValue(s, most)
}

// digitsValue returns the integer that 1 to most decimal digits denote, with or without leading zeros. With at most 18 digits it cannot overflow.
func digitsValue(s string, most int) (int, bool) {
	if s == "" || len(s) > most {
		return 0, false
	}
	n := 0
	for i := range len(s) {
		if s[i] < '0' || s[i] > '9' {
			return 0, false
		}
		n = n*10 + int(s[i]-'0')
	}
	return n, true
}

// SplitByte returns the parts of s between the occurrences of by.
func SplitByte(s string, by byte) []string {
	list := make([]string, 0, countByte(s, by)+1)
	start := 0
	for i := range len(s) {
		if s[i] == by {
			// A result shares no memory with an argument: a part of s would keep all of s.
			list = append(list, strings.Clone(s[start:i]))
			start = i + 1
		}
	}
	return append(list, strings.Clone(s[start:]))
}

// countByte returns the number of occurrences of by in s.
func countByte(s string, by byte) int {
	count := 0
	for i := range len(s) {
		if s[i] == by {
			count++
		}
	}
	return count
}

// Join concatenates the elements of list with by between them, or returns "" if that has more than maxJoined bytes.
func Join(list []string, by string) string {
	size, ok := joinedSize(list, by)
	if !ok {
		return ""
	}
	var text strings.Builder
	text.Grow(size)
	for i, part := range list {
		if i > 0 {
			text.WriteString(by)
		}
		text.WriteString(part)
	}
	return text.String()
}

// joinedSize returns the number of bytes that Join produces, and false as soon as it exceeds maxJoined, so that the sum cannot overflow.
func joinedSize(list []string, by string) (int, bool) {
	size := 0
	for i, part := range list {
		if i > 0 {
			size += len(by)
		}
		size += len(part)
		if size > maxJoined {
			return 0, false
		}
	}
	return size, true
}
