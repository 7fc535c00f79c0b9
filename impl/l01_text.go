package impl

import (
	"strconv"
	"strings"
)

const (
	MaxInputLen      = 20000
	MaxUint          = 1000000000
	MaxLineLen       = 600
	MaxFieldsPerLine = 24
)

const (
	hexDigits       = "0123456789abcdef"
	lowestLineByte  = 32
	highestLineByte = 126
)

func EncodeHex(s string) (string, bool) {
	if len(s) > MaxInputLen {
		return "", false
	}
	digits := make([]byte, 0, 2*len(s))
	for i := range len(s) {
		digits = append(digits, hexDigits[s[i]>>4], hexDigits[s[i]&15])
	}
	return string(digits), true
}

func DecodeHex(s string) (string, bool) {
	if len(s)%2 != 0 || len(s) > 2*MaxInputLen {
		return "", false
	}
	decoded := make([]byte, 0, len(s)/2)
	for i := 0; i < len(s); i += 2 {
		high := strings.IndexByte(hexDigits, s[i])
		low := strings.IndexByte(hexDigits, s[i+1])
		if high < 0 || low < 0 {
			return "", false
		}
		decoded = append(decoded, byte(high<<4|low))
	}
	return string(decoded), true
}

func FormatInt(n int) string {
	return strconv.Itoa(n)
}

func ParseUint(s string) (int, bool) {
	n, err := strconv.Atoi(s)
	// Atoi also takes signs and leading zeros; writing the number again rules them out.
	if err != nil || n < 0 || n > MaxUint || FormatInt(n) != s {
		return 0, false
	}
	return n, true
}

func SplitFields(line string) ([]string, bool) {
	if len(line) > MaxLineLen {
		return nil, false
	}
	var fields []string
	// Each field is collected byte by byte, so that it shares no memory with the line.
	var field []byte
	valid := true
scan:
	for i := range len(line) {
		b := line[i]
		switch {
		case b < lowestLineByte || b > highestLineByte:
			valid = false
			break scan
		case b != ' ':
			field = append(field, b)
		case len(field) > 0:
			fields = append(fields, string(field))
			field = nil
		}
	}
	if len(field) > 0 {
		fields = append(fields, string(field))
	}
	if !valid || len(fields) > MaxFieldsPerLine {
		return nil, false
	}
	return fields, true
}

func Clamp(n int, low int, high int) int {
	// The maximum is taken last, so that low wins where high is less than low.
	return max(low, min(n, high))
}
