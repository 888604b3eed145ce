package tests

import (
	"fmt"
	"math"
	"math/big"
	"slices"
	"strings"
	"testing"

	"loop.example/g00961/impl"
)

func allBytes() string {
	b := make([]byte, 256)
	for i := range b {
		b[i] = byte(i)
	}
	return string(b)
}

func TestWordsLimits(t *testing.T) {
	if impl.MaxText != 20000 || impl.MaxNumber != 1000000000 || impl.MaxWords != 600 || impl.MaxParts != 12 {
		t.Errorf("limits are %d, %d, %d, %d", impl.MaxText, impl.MaxNumber, impl.MaxWords, impl.MaxParts)
	}
}

func TestHexAndBack(t *testing.T) {
	full := strings.Repeat("\x80", impl.MaxText)
	for _, text := range []string{"", "\x00", "\x01\xff", "abc", "é€", "\xff\xfe", allBytes(), full} {
		got, ok := impl.Hex(text)
		if want := fmt.Sprintf("%x", text); !ok || got != want {
			t.Errorf("Hex(%.20q) = %.40q, %v; want %.40q, true", text, got, ok, want)
		}
		if back, ok := impl.Unhex(got); !ok || back != text {
			t.Errorf("Unhex(%.40q) = %.20q, %v; want %.20q, true", got, back, ok, text)
		}
	}
	if got, ok := impl.Hex("\x01\xff"); !ok || got != "01ff" {
		t.Errorf("Hex of 1 and 255 = %q, %v", got, ok)
	}
}

func TestHexTooLong(t *testing.T) {
	for _, n := range []int{impl.MaxText + 1, 2*impl.MaxText + 2} {
		if got, ok := impl.Hex(strings.Repeat("x", n)); ok || got != "" {
			t.Errorf("Hex of %d bytes = %.20q, %v; want \"\", false", n, got, ok)
		}
	}
}

func TestUnhexRejects(t *testing.T) {
	texts := []string{
		"0", "01f", "01FF", "aB", "Ab", "0g", "g0", "0x", "-1", "+1", " 1", "1 ", "00 ", " 00", "0/", "0:", "0`", "0\x00", "é", "00\n",
		strings.Repeat("80", impl.MaxText+1),
		strings.Repeat("80", impl.MaxText) + "8",
		strings.Repeat("80", impl.MaxText-1) + "8G",
	}
	for _, text := range texts {
		if got, ok := impl.Unhex(text); ok || got != "" {
			t.Errorf("Unhex(%.20q), %d bytes = %.20q, %v; want \"\", false", text, len(text), got, ok)
		}
	}
}

// Every text of two bytes is accepted exactly if it is one of the 256 that Hex returns for one byte.
func TestUnhexOfTwoBytes(t *testing.T) {
	byText := map[string]string{}
	for i := range 256 {
		byText[fmt.Sprintf("%02x", i)] = string([]byte{byte(i)})
	}
	for high := range 256 {
		for low := range 256 {
			text := string([]byte{byte(high), byte(low)})
			want, known := byText[text]
			if got, ok := impl.Unhex(text); ok != known || got != want {
				t.Fatalf("Unhex(%q) = %q, %v; want %q, %v", text, got, ok, want, known)
			}
		}
	}
}

func TestDecimal(t *testing.T) {
	numbers := []int{
		0, 1, -1, 9, 10, -10, -30, 99, 100, 101, 1234567890, -1234567890, impl.MaxNumber, -impl.MaxNumber,
		math.MaxInt, math.MaxInt - 1, math.MinInt, math.MinInt + 1,
	}
	for _, n := range numbers {
		if got, want := impl.Decimal(n), big.NewInt(int64(n)).String(); got != want {
			t.Errorf("Decimal(%d) = %q; want %q", n, got, want)
		}
	}
	texts := map[int]string{-30: "-30", 0: "0", math.MinInt: "-9223372036854775808", math.MaxInt: "9223372036854775807"}
	for n, want := range texts {
		if got := impl.Decimal(n); got != want {
			t.Errorf("Decimal(%d) = %q; want %q", n, got, want)
		}
	}
}

func TestReadDecimalOfDecimal(t *testing.T) {
	numbers := []int{0, 1, 9, 10, 11, 100, 999999999, impl.MaxNumber - 1, impl.MaxNumber}
	for n := range 2000 {
		numbers = append(numbers, n, n*499979)
	}
	for _, n := range numbers {
		if got, ok := impl.ReadDecimal(impl.Decimal(n)); !ok || got != n {
			t.Errorf("ReadDecimal(%q) = %d, %v; want %d, true", impl.Decimal(n), got, ok, n)
		}
	}
	for _, n := range []int{-1, -30, impl.MaxNumber + 1, -impl.MaxNumber, math.MaxInt, math.MinInt} {
		if got, ok := impl.ReadDecimal(impl.Decimal(n)); ok || got != 0 {
			t.Errorf("ReadDecimal(%q) = %d, %v; want 0, false", impl.Decimal(n), got, ok)
		}
	}
}

func TestReadDecimalRejects(t *testing.T) {
	texts := []string{
		"", "007", "00", "01", "01000000000", "-0", "+0", "-1", "+1", "-", "+", " 1", "1 ", " ", "1\n", "\x001", "1\x00",
		"1 2", "1_0", "1,0", "1.0", "1e3", "0x1", "0b1", "0o7", "a", "1a", "a1", "/", ":", "١", "1000000001", "9999999999",
		"9223372036854775807", "9223372036854775808", "18446744073709551616", "18446744073709551617", strings.Repeat("1", 100000),
	}
	for _, text := range texts {
		if got, ok := impl.ReadDecimal(text); ok || got != 0 {
			t.Errorf("ReadDecimal(%.30q) = %d, %v; want 0, false", text, got, ok)
		}
	}
}

// Every text of at most two bytes is accepted exactly if it is Decimal of one of the numbers 0 to 99.
func TestReadDecimalOfShortTexts(t *testing.T) {
	byText := map[string]int{}
	for n := range 100 {
		byText[fmt.Sprint(n)] = n
	}
	check := func(text string) {
		want, known := byText[text]
		if got, ok := impl.ReadDecimal(text); ok != known || got != want {
			t.Fatalf("ReadDecimal(%q) = %d, %v; want %d, %v", text, got, ok, want, known)
		}
	}
	for first := range 256 {
		check(string([]byte{byte(first)}))
		for second := range 256 {
			check(string([]byte{byte(first), byte(second)}))
		}
	}
}

func TestPartsOf(t *testing.T) {
	cases := []struct {
		line string
		want []string
	}{
		{"", nil},
		{" ", nil},
		{strings.Repeat(" ", impl.MaxWords), nil},
		{"a", []string{"a"}},
		{"  a bc ", []string{"a", "bc"}},
		{"a  bc", []string{"a", "bc"}},
		{"a bc", []string{"a", "bc"}},
		{" a", []string{"a"}},
		{"a ", []string{"a"}},
		{"a   ", []string{"a"}},
		{"~ ! ~!", []string{"~", "!", "~!"}},
		{"a a a", []string{"a", "a", "a"}},
		{"move 3 12", []string{"move", "3", "12"}},
		{strings.Repeat("x", impl.MaxWords), []string{strings.Repeat("x", impl.MaxWords)}},
		{"a" + strings.Repeat(" ", impl.MaxWords-2) + "b", []string{"a", "b"}},
		{"1 2 3 4 5 6 7 8 9 10 11 12", strings.Split("1,2,3,4,5,6,7,8,9,10,11,12", ",")},
		{" 1 2  3 4 5 6 7 8 9 10 11  12  ", strings.Split("1,2,3,4,5,6,7,8,9,10,11,12", ",")},
	}
	for _, c := range cases {
		if got, ok := impl.PartsOf(c.line); !ok || !slices.Equal(got, c.want) {
			t.Errorf("PartsOf(%.40q) = %.40q, %v; want %.40q, true", c.line, got, ok, c.want)
		}
	}
}

func TestPartsOfRejects(t *testing.T) {
	lines := []string{
		strings.Repeat("x", impl.MaxWords+1),
		strings.Repeat(" ", impl.MaxWords+1),
		strings.Repeat("x", impl.MaxWords) + " ",
		strings.Repeat("x", impl.MaxWords) + "\n",
		strings.Repeat("x", impl.MaxWords-1) + "\n",
		"1 2 3 4 5 6 7 8 9 10 11 12 13",
		" 1 2 3 4 5 6 7 8 9 10 11 12 13 ",
		strings.Repeat("a ", impl.MaxWords/2),
		"a\tb", "a\nb", "a\n", "\na", "a b\r", "é", "a \x80", "\xff", "\x00", "a b\x00c d", " \x1f ", " \x7f ",
	}
	for _, line := range lines {
		if got, ok := impl.PartsOf(line); ok || len(got) != 0 {
			t.Errorf("PartsOf(%.40q) = %.40q, %v; want nil, false", line, got, ok)
		}
	}
}

// Each byte at the beginning, in the middle, at the end and alone: only 32 to 126 are accepted.
func TestPartsOfEachByte(t *testing.T) {
	for i := range 256 {
		b := string([]byte{byte(i)})
		for _, line := range []string{b, b + "yz", "x" + b + "z", "xy" + b, "x " + b + " z"} {
			valid := i >= 32 && i <= 126
			var want []string
			if valid {
				want = strings.FieldsFunc(line, func(r rune) bool { return r == ' ' })
			}
			if got, ok := impl.PartsOf(line); ok != valid || !slices.Equal(got, want) {
				t.Errorf("PartsOf(%q) = %q, %v; want %q, %v", line, got, ok, want, valid)
			}
		}
	}
}

// The fields joined by any runs of spaces are found again, for every number of fields around the limit.
func TestPartsOfJoinedFields(t *testing.T) {
	for n := range impl.MaxParts + 3 {
		var want []string
		for i := range n {
			want = append(want, fmt.Sprintf("f%d", i*i))
		}
		for gap := 1; gap <= 3; gap++ {
			for edge := range 3 {
				edges := strings.Repeat(" ", edge)
				line := edges + strings.Join(want, strings.Repeat(" ", gap)) + edges
				got, ok := impl.PartsOf(line)
				if n > impl.MaxParts {
					if ok || len(got) != 0 {
						t.Errorf("PartsOf(%q) = %q, %v; want nil, false", line, got, ok)
					}
				} else if !ok || !slices.Equal(got, want) {
					t.Errorf("PartsOf(%q) = %q, %v; want %q, true", line, got, ok, want)
				}
			}
		}
	}
}

func TestPartsOfResultsAreIndependent(t *testing.T) {
	first, _ := impl.PartsOf("a bc d")
	first[0] = "changed"
	_ = append(first[:1], "changed")
	if second, ok := impl.PartsOf("a bc d"); !ok || !slices.Equal(second, []string{"a", "bc", "d"}) {
		t.Errorf("PartsOf after a change of its earlier result = %q, %v", second, ok)
	}
}

func TestBrought(t *testing.T) {
	cases := []struct{ n, least, most, want int }{
		{9, 1, 4, 4},
		{5, 7, 3, 7},
		{0, 1, 4, 1},
		{1, 1, 4, 1},
		{2, 1, 4, 2},
		{4, 1, 4, 4},
		{5, 1, 4, 4},
		{6, 6, 6, 6},
		{5, 6, 6, 6},
		{7, 6, 6, 6},
		{9, 7, 3, 7},
		{7, 7, 3, 7},
		{3, 7, 3, 7},
		{1, 7, 3, 7},
		{7, 7, 6, 7},
		{-9, -4, -1, -4},
		{0, -4, -1, -1},
		{math.MinInt, math.MinInt, math.MaxInt, math.MinInt},
		{math.MaxInt, math.MinInt, math.MaxInt, math.MaxInt},
		{0, math.MinInt, math.MaxInt, 0},
		{0, math.MaxInt, math.MinInt, math.MaxInt},
		{math.MinInt, -1, 1, -1},
		{math.MaxInt, -1, 1, 1},
	}
	for _, c := range cases {
		if got := impl.Brought(c.n, c.least, c.most); got != c.want {
			t.Errorf("Brought(%d, %d, %d) = %d; want %d", c.n, c.least, c.most, got, c.want)
		}
	}
}

func TestBroughtIsInRangeAndKeepsWhatIs(t *testing.T) {
	for n := -6; n <= 6; n++ {
		for least := -6; least <= 6; least++ {
			for most := -6; most <= 6; most++ {
				got := impl.Brought(n, least, most)
				if most < least {
					if got != least {
						t.Errorf("Brought(%d, %d, %d) = %d; want %d", n, least, most, got, least)
					}
					continue
				}
				if got < least || got > most {
					t.Errorf("Brought(%d, %d, %d) = %d is outside the range", n, least, most, got)
				}
				if n >= least && n <= most && got != n {
					t.Errorf("Brought(%d, %d, %d) = %d changes a number in the range", n, least, most, got)
				}
				if again := impl.Brought(got, least, most); again != got {
					t.Errorf("Brought(%d, %d, %d) = %d is not unchanged by a second call", got, least, most, again)
				}
			}
		}
	}
}
