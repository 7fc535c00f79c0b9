package tests

import (
	"encoding/hex"
	"math"
	"slices"
	"strconv"
	"strings"
	"testing"

	"loop.example/g00990/impl"
)

// allBytes holds every byte once, in ascending order.
func allBytes() string {
	list := make([]byte, 256)
	for i := range list {
		list[i] = byte(i)
	}
	return string(list)
}

func TestTextLimits(t *testing.T) {
	got := []int{impl.MaxInputLen, impl.MaxUint, impl.MaxLineLen, impl.MaxFieldsPerLine}
	want := []int{20000, 1000000000, 600, 24}
	if !slices.Equal(got, want) {
		t.Errorf("limits %v, want %v", got, want)
	}
}

func TestEncodeHex(t *testing.T) {
	cases := []struct{ s, want string }{
		{"", ""},
		{"az", "617a"},
		{"a", "61"},
		{"\x00", "00"},
		{"\x09\x0a\x0f\x10", "090a0f10"},
		{"\x9f\xa0\xff", "9fa0ff"},
		{"AZ 09", "415a203039"},
		{"é", "c3a9"},
		{allBytes(), hex.EncodeToString([]byte(allBytes()))},
	}
	for _, c := range cases {
		got, ok := impl.EncodeHex(c.s)
		if !ok || got != c.want {
			t.Errorf("EncodeHex(%q) = %q, %v, want %q, true", c.s, got, ok, c.want)
		}
	}
}

func TestEncodeHexLimit(t *testing.T) {
	for _, n := range []int{19999, 20000} {
		got, ok := impl.EncodeHex(strings.Repeat("~", n))
		if !ok || got != strings.Repeat("7e", n) {
			t.Errorf("EncodeHex of %d bytes: %d digits, %v", n, len(got), ok)
		}
	}
	for _, n := range []int{20001, 40000} {
		got, ok := impl.EncodeHex(strings.Repeat("~", n))
		if ok || got != "" {
			t.Errorf("EncodeHex of %d bytes: %d digits, %v, want none and false", n, len(got), ok)
		}
	}
}

func TestDecodeHex(t *testing.T) {
	cases := []struct{ s, want string }{
		{"", ""},
		{"617a", "az"},
		{"00", "\x00"},
		{"0001", "\x00\x01"},
		{"9fa0ff", "\x9f\xa0\xff"},
		{hex.EncodeToString([]byte(allBytes())), allBytes()},
	}
	for _, c := range cases {
		got, ok := impl.DecodeHex(c.s)
		if !ok || got != c.want {
			t.Errorf("DecodeHex(%q) = %q, %v, want %q, true", c.s, got, ok, c.want)
		}
	}
}

func TestDecodeHexInvalid(t *testing.T) {
	cases := []string{
		"6", "617", "617a0", "zz", "6 ", " 6", "61 7a ", "0x61",
		"6A", "A6", "7A", "FF", "fF", "617A", "61zz", "zz61",
		"g0", "0g", "/0", "0/", ":0", "0:", "`0", "0`", "@0", "G0",
		"-1", "+1", "\x006", "6\x00", "\n\n", "é", "６１", "\xff\xff",
	}
	for _, s := range cases {
		got, ok := impl.DecodeHex(s)
		if ok || got != "" {
			t.Errorf("DecodeHex(%q) = %q, %v, want \"\", false", s, got, ok)
		}
	}
}

// TestDecodeHexPairs goes through all strings of two bytes: those of two lowercase digits are texts, and no others.
func TestDecodeHexPairs(t *testing.T) {
	const digits = "0123456789abcdef"
	for high := range 256 {
		for low := range 256 {
			s := string([]byte{byte(high), byte(low)})
			h, l := strings.IndexByte(digits, byte(high)), strings.IndexByte(digits, byte(low))
			want, wantOk := "", h >= 0 && l >= 0
			if wantOk {
				want = string([]byte{byte(16*h + l)})
			}
			got, ok := impl.DecodeHex(s)
			if ok != wantOk || got != want {
				t.Errorf("DecodeHex(%q) = %q, %v, want %q, %v", s, got, ok, want, wantOk)
			}
		}
	}
}

func TestDecodeHexLimit(t *testing.T) {
	for _, n := range []int{19999, 20000} {
		got, ok := impl.DecodeHex(strings.Repeat("7e", n))
		if !ok || got != strings.Repeat("~", n) {
			t.Errorf("DecodeHex to %d bytes: %d bytes, %v", n, len(got), ok)
		}
	}
	for _, s := range []string{strings.Repeat("7e", 20001), strings.Repeat("7e", 20000) + "7", strings.Repeat("7e", 19999) + "7", strings.Repeat("7e", 19999) + "7E"} {
		got, ok := impl.DecodeHex(s)
		if ok || got != "" {
			t.Errorf("DecodeHex of %d digits: %d bytes, %v, want none and false", len(s), len(got), ok)
		}
	}
}

func TestHexThereAndBack(t *testing.T) {
	text := allBytes() + "garden" + allBytes()
	for from := range len(text) {
		for _, n := range []int{0, 1, 2, 7} {
			s := text[from:min(from+n, len(text))]
			h, ok := impl.EncodeHex(s)
			back, right := impl.DecodeHex(h)
			if !ok || !right || back != s || len(h) != 2*len(s) {
				t.Errorf("%q is encoded as %q, %v and decoded as %q, %v", s, h, ok, back, right)
			}
		}
	}
}

func TestFormatInt(t *testing.T) {
	cases := []struct {
		n    int
		want string
	}{
		{0, "0"}, {1, "1"}, {-1, "-1"}, {-5, "-5"}, {9, "9"}, {10, "10"}, {-10, "-10"}, {99, "99"}, {100, "100"},
		{1000000000, "1000000000"}, {1000000001, "1000000001"}, {-1000000000, "-1000000000"},
		{math.MaxInt, "9223372036854775807"}, {math.MinInt, "-9223372036854775808"},
		{math.MaxInt - 1, "9223372036854775806"}, {math.MinInt + 1, "-9223372036854775807"},
		{math.MaxInt32 + 1, "2147483648"}, {math.MinInt32 - 1, "-2147483649"},
	}
	for _, c := range cases {
		if got := impl.FormatInt(c.n); got != c.want {
			t.Errorf("FormatInt(%d) = %q, want %q", c.n, got, c.want)
		}
	}
}

func TestParseUint(t *testing.T) {
	cases := []struct {
		s    string
		want int
	}{
		{"0", 0}, {"1", 1}, {"9", 9}, {"10", 10}, {"101", 101}, {"1000", 1000}, {"123456789", 123456789}, {"987654321", 987654321},
		{"999999999", 999999999}, {"1000000000", 1000000000},
	}
	for _, c := range cases {
		got, ok := impl.ParseUint(c.s)
		if !ok || got != c.want {
			t.Errorf("ParseUint(%q) = %d, %v, want %d, true", c.s, got, ok, c.want)
		}
	}
}

func TestParseUintInvalid(t *testing.T) {
	cases := []string{
		"", "01", "00", "000", "007", "0000000000", "01000000000", "0999999999",
		"-0", "-1", "-1000000000", "+0", "+1", "-", "+", "--1",
		"1000000001", "1000000010", "2000000000", "9999999999", "10000000000",
		"2147483648", "4294967296", "4294967297", "9223372036854775807", "9223372036854775808",
		"18446744073709551615", "18446744073709551616", "18446744073709551617", "-9223372036854775808",
		strings.Repeat("0", 700), strings.Repeat("9", 700), "1" + strings.Repeat("0", 20000),
		" 1", "1 ", " ", "1 2", "1\n", "\t1", "1\x00", "\x001",
		"a", "1a", "a1", "f", "0x1", "0b1", "0o1", "1_0", "1,0", "1.0", "1e3", "/", ":", "1/", "1:",
		"١", "１", "\xff",
	}
	for _, s := range cases {
		got, ok := impl.ParseUint(s)
		if ok || got != 0 {
			t.Errorf("ParseUint(%q) = %d, %v, want 0, false", s, got, ok)
		}
	}
}

func TestNumbersThereAndBack(t *testing.T) {
	for _, middle := range []int{0, 500000000, 1000000000, 4294967296} {
		for n := middle - 1100; n <= middle+1100; n++ {
			s := impl.FormatInt(n)
			want, wantOk := 0, n >= 0 && n <= 1000000000
			if wantOk {
				want = n
			}
			got, ok := impl.ParseUint(s)
			if s != strconv.Itoa(n) || got != want || ok != wantOk {
				t.Errorf("%d is written %q and read as %d, %v", n, s, got, ok)
			}
		}
	}
}

func TestSplitFields(t *testing.T) {
	cases := []struct {
		line string
		want []string
	}{
		{"", nil},
		{" ", nil},
		{"    ", nil},
		{"a", []string{"a"}},
		{"day 1", []string{"day", "1"}},
		{" day  1 ", []string{"day", "1"}},
		{"   day     1   ", []string{"day", "1"}},
		{"walk 0 3", []string{"walk", "0", "3"}},
		{"a b c", []string{"a", "b", "c"}},
		{"a a a", []string{"a", "a", "a"}},
		{"  leave", []string{"leave"}},
		{"leave  ", []string{"leave"}},
		{"01 -1 +x", []string{"01", "-1", "+x"}},
		{"! ~ !~", []string{"!", "~", "!~"}},
		{"a,b;c|d", []string{"a,b;c|d"}},
	}
	for _, c := range cases {
		got, ok := impl.SplitFields(c.line)
		if !ok || !slices.Equal(got, c.want) {
			t.Errorf("SplitFields(%q) = %q, %v, want %q, true", c.line, got, ok, c.want)
		}
	}
}

// TestSplitFieldsBytes puts every byte in every place of a line: only those outside 32 to 126 are rejected.
func TestSplitFieldsBytes(t *testing.T) {
	for b := range 256 {
		c := string([]byte{byte(b)})
		for _, line := range []string{c, c + "ab", "a" + c + "b", "ab" + c, "a " + c + " b", " " + c, c + " ", "a b" + c, "\x01" + c} {
			want, wantOk := strings.FieldsFunc(line, func(r rune) bool { return r == ' ' }), true
			for i := range len(line) {
				wantOk = wantOk && line[i] >= 32 && line[i] <= 126
			}
			if !wantOk {
				want = nil
			}
			got, ok := impl.SplitFields(line)
			if ok != wantOk || !slices.Equal(got, want) {
				t.Errorf("SplitFields(%q) = %q, %v, want %q, %v", line, got, ok, want, wantOk)
			}
		}
	}
}

func TestSplitFieldsLength(t *testing.T) {
	accepted := []struct {
		line string
		want []string
	}{
		{strings.Repeat("x", 600), []string{strings.Repeat("x", 600)}},
		{strings.Repeat(" ", 600), nil},
		{strings.Repeat(" ", 599) + "x", []string{"x"}},
		{"x" + strings.Repeat(" ", 599), []string{"x"}},
		{strings.Repeat("x", 299) + "  " + strings.Repeat("y", 299), []string{strings.Repeat("x", 299), strings.Repeat("y", 299)}},
	}
	for _, c := range accepted {
		got, ok := impl.SplitFields(c.line)
		if !ok || !slices.Equal(got, c.want) {
			t.Errorf("SplitFields of %d bytes: %q, %v, want %q, true", len(c.line), got, ok, c.want)
		}
		longer, bad := impl.SplitFields(c.line + " ")
		if bad || len(longer) != 0 {
			t.Errorf("SplitFields of %d bytes: %q, %v, want nil, false", len(c.line)+1, longer, bad)
		}
	}
	for _, line := range []string{strings.Repeat("x", 601), strings.Repeat(" ", 601), " " + strings.Repeat("x", 600), strings.Repeat("x", 20000)} {
		got, ok := impl.SplitFields(line)
		if ok || len(got) != 0 {
			t.Errorf("SplitFields of %d bytes: %q, %v, want nil, false", len(line), got, ok)
		}
	}
}

func TestSplitFieldsCount(t *testing.T) {
	for n := range 40 {
		list := make([]string, n)
		for i := range list {
			list[i] = strconv.Itoa(i)
		}
		want := list
		if n > 24 {
			want = nil
		}
		for _, line := range []string{strings.Join(list, " "), " " + strings.Join(list, "   ") + "  "} {
			got, ok := impl.SplitFields(line)
			if ok != (n <= 24) || !slices.Equal(got, want) {
				t.Errorf("SplitFields of %d fields: %q, %v", n, got, ok)
			}
		}
	}
}

func TestSplitFieldsIsNewMemory(t *testing.T) {
	const line = "day 1 enter"
	first, _ := impl.SplitFields(line)
	second, _ := impl.SplitFields(line)
	for i := range first {
		first[i] = "changed"
	}
	third, ok := impl.SplitFields(line)
	want := []string{"day", "1", "enter"}
	if !ok || !slices.Equal(second, want) || !slices.Equal(third, want) {
		t.Errorf("SplitFields(%q) = %q and %q after a change of another result", line, second, third)
	}
}

func TestClamp(t *testing.T) {
	const least, most = math.MinInt, math.MaxInt
	cases := []struct{ n, low, high, want int }{
		{9, 1, 5, 5}, {0, 1, 5, 1}, {3, 1, 5, 3}, {1, 1, 5, 1}, {5, 1, 5, 5}, {6, 1, 5, 5}, {-3, 1, 5, 1},
		{-9, -5, -1, -5}, {0, -5, -1, -1}, {-3, -5, -1, -3},
		{4, 4, 4, 4}, {3, 4, 4, 4}, {5, 4, 4, 4},
		{3, 5, 1, 5}, {0, 5, 1, 5}, {9, 5, 1, 5}, {5, 5, 1, 5}, {1, 5, 1, 5}, {4, 4, 3, 4}, {3, 4, 3, 4}, {9, 4, 3, 4},
		{least, least, most, least}, {most, least, most, most}, {0, least, most, 0},
		{least, 0, 9, 0}, {most, 0, 9, 9}, {least, most, most, most}, {most, least, least, least},
		{least, most, least, most}, {0, most, least, most}, {most, most, least, most},
		{least, least + 1, most - 1, least + 1}, {most, least + 1, most - 1, most - 1},
		{7, 8, least, 8}, {most, 8, least, 8},
	}
	for _, c := range cases {
		if got := impl.Clamp(c.n, c.low, c.high); got != c.want {
			t.Errorf("Clamp(%d, %d, %d) = %d, want %d", c.n, c.low, c.high, got, c.want)
		}
	}
}

func TestClampIsNearest(t *testing.T) {
	for low := -4; low <= 4; low++ {
		for high := -4; high <= 4; high++ {
			for n := -6; n <= 6; n++ {
				got := impl.Clamp(n, low, high)
				want := low
				// The value of the range that is nearest to n; low alone if there is none.
				for k := low; k <= high; k++ {
					if max(k-n, n-k) < max(want-n, n-want) {
						want = k
					}
				}
				if got != want {
					t.Errorf("Clamp(%d, %d, %d) = %d, want %d", n, low, high, got, want)
				}
			}
		}
	}
}
