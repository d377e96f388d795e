package impl

import (
	"strconv"
	"strings"
)

const (
	MaxInputLen      = 20000
	MaxUint          = 1000000000
	MaxLineLen       = 600
	MaxFieldsPerLine = 24
)

const hexDigits = "0123456789abcdef"

// EncodeHex returns the lowercase hexadecimal encoding of s.
func EncodeHex(s string) (string, bool) {
	if len(s) > MaxInputLen {
		return "", false
	}
	out := make([]byte, 0, 2*len(s))
	for i := range len(s) {
		out = append(out, hexDigits[s[i]>>4], hexDigits[s[i]&15])
	}
	return string(out), true
}

// DecodeHex returns the string whose EncodeHex is s.
func DecodeHex(s string) (string, bool) {
	if len(s)%2 != 0 || len(s) > 2*MaxInputLen {
		return "", false
	}
	out := make([]byte, 0, len(s)/2)
	for i := 0; i < len(s); i += 2 {
		high := strings.IndexByte(hexDigits, s[i])
		low := strings.IndexByte(hexDigits, s[i+1])
		if high < 0 || low < 0 {
			return "", false
		}
		out = append(out, byte(high<<4|low))
	}
	return string(out), true
}

// FormatInt returns n in decimal.
func FormatInt(n int) string {
	return strconv.Itoa(n)
}

// ParseUint returns the number in the range 0 to MaxUint whose FormatInt is s.
func ParseUint(s string) (int, bool) {
	n, err := strconv.Atoi(s)
	// Atoi also reads a plus sign and leading zeros, which FormatInt never writes.
	if err != nil || n < 0 || n > MaxUint || FormatInt(n) != s {
		return 0, false
	}
	return n, true
}

// SplitFields returns the fields of a line, which spaces separate.
func SplitFields(line string) ([]string, bool) {
	if len(line) > MaxLineLen {
		return nil, false
	}
	var fields []string
	at := 0
scan:
	for at < len(line) {
		switch b := line[at]; {
		case b == ' ':
			at++
		case isVisible(b):
			end := fieldEnd(line, at)
			fields = append(fields, line[at:end])
			at = end
		default:
			break scan
		}
	}
	// The scan stops before the end of the line only at an invalid byte.
	if at < len(line) || len(fields) > MaxFieldsPerLine {
		return nil, false
	}
	return fields, true
}

// isVisible reports whether a field may contain b: a byte from 33 to 126.
func isVisible(b byte) bool {
	return b > ' ' && b <= '~'
}

// fieldEnd returns the index after the field that begins at from.
func fieldEnd(line string, from int) int {
	end := from
	for end < len(line) && isVisible(line[end]) {
		end++
	}
	return end
}

// Clamp returns n clamped to the range low to high.
func Clamp(n int, low int, high int) int {
	// The lower end is applied last, since it wins if high is less than low.
	return max(low, min(n, high))
}

// inRange reports whether n is in the range low to high.
func inRange(n int, low int, high int) bool {
	return n >= low && n <= high
}
