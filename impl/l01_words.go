package impl

import (
	"strconv"
	"strings"
)

const (
	MaxText   = 20000
	MaxNumber = 1000000000
	MaxWords  = 600
	MaxParts  = 12
)

const hexDigits = "0123456789abcdef"

// The bytes that a line may contain, both included.
const (
	leastLineByte = 32
	mostLineByte  = 126
)

func Hex(text string) (string, bool) {
	if len(text) > MaxText {
		return "", false
	}
	digits := make([]byte, 0, 2*len(text))
	for i := range len(text) {
		digits = append(digits, hexDigits[text[i]>>4], hexDigits[text[i]&15])
	}
	return string(digits), true
}

func Unhex(text string) (string, bool) {
	if len(text)%2 != 0 || len(text) > 2*MaxText {
		return "", false
	}
	decoded := make([]byte, 0, len(text)/2)
	for i := 0; i < len(text); i += 2 {
		high := strings.IndexByte(hexDigits, text[i])
		low := strings.IndexByte(hexDigits, text[i+1])
		if high < 0 || low < 0 {
			return "", false
		}
		decoded = append(decoded, byte(16*high+low))
	}
	return string(decoded), true
}

func Decimal(n int) string { return strconv.Itoa(n) }

func ReadDecimal(text string) (int, bool) {
	n, err := strconv.Atoi(text)
	if err != nil || n < 0 || n > MaxNumber {
		return 0, false
	}
	// Atoi also reads plus signs, a minus before 0 and leading zeros, which Decimal never writes.
	if Decimal(n) != text {
		return 0, false
	}
	return n, true
}

func PartsOf(line string) ([]string, bool) {
	if len(line) > MaxWords {
		return nil, false
	}
	var parts []string
	begin, at := 0, 0
visit:
	for at < len(line) {
		switch b := line[at]; {
		case b < leastLineByte || b > mostLineByte:
			break visit
		case b == ' ':
			parts = withPart(parts, line[begin:at])
			begin = at + 1
		}
		at++
	}
	// Only an invalid byte stops the visit before the end of the line.
	if at < len(line) {
		return nil, false
	}
	parts = withPart(parts, line[begin:])
	if len(parts) > MaxParts {
		return nil, false
	}
	return parts, true
}

// withPart drops the empty parts that lie between two spaces; it copies the others because a result shares no memory with the line.
func withPart(parts []string, part string) []string {
	if part == "" {
		return parts
	}
	return append(parts, strings.Clone(part))
}

func Brought(n int, least int, most int) int {
	// least is applied last, so that it wins where most is less than least.
	return max(least, min(n, most))
}
