package tests

import (
	"math"
	"slices"
	"strings"
	"testing"

	"loop.example/g03306/impl"
)

func TestTextConstants(t *testing.T) {
	got := []int{impl.MaxInputLen, impl.MaxUint, impl.MaxLineLen, impl.MaxFieldsPerLine}
	if want := []int{20000, 1000000000, 600, 24}; !slices.Equal(got, want) {
		t.Errorf("limits are %v, want %v", got, want)
	}
}

func TestEncodeHex(t *testing.T) {
	for _, c := range []struct{ in, want string }{
		{"", ""},
		{"az", "617a"},
		{"\x00", "00"},
		{"\x0f\xf0", "0ff0"},
		{"\xab\xcd\xef", "abcdef"},
		{"0 \n", "30200a"},
	} {
		if got, ok := impl.EncodeHex(c.in); got != c.want || !ok {
			t.Errorf("EncodeHex(%q) = %q, %v, want %q, true", c.in, got, ok, c.want)
		}
	}
}

func TestEncodeHexLimit(t *testing.T) {
	got, ok := impl.EncodeHex(strings.Repeat("\x7e", 20000))
	if got != strings.Repeat("7e", 20000) || !ok {
		t.Errorf("EncodeHex of 20000 bytes returns %d bytes, %v", len(got), ok)
	}
	for _, n := range []int{20001, 20002, 40000} {
		if got, ok := impl.EncodeHex(strings.Repeat("a", n)); got != "" || ok {
			t.Errorf("EncodeHex of %d bytes returns %d bytes, %v, want none, false", n, len(got), ok)
		}
	}
}

func TestDecodeHex(t *testing.T) {
	for _, c := range []struct{ in, want string }{
		{"", ""},
		{"617a", "az"},
		{"00", "\x00"},
		{"0ff0", "\x0f\xf0"},
		{"0123456789abcdef", "\x01\x23\x45\x67\x89\xab\xcd\xef"},
	} {
		if got, ok := impl.DecodeHex(c.in); got != c.want || !ok {
			t.Errorf("DecodeHex(%q) = %q, %v, want %q, true", c.in, got, ok, c.want)
		}
	}
}

func TestDecodeHexRejects(t *testing.T) {
	for _, in := range []string{
		"6", "617", "617a6", // odd lengths
		"6A", "A6", "617A", "ABCDEF", "aB", // upper-case digits
		"0x61", "zz", "6 ", " 6", " 61", "61 ", "6\n", "-1", "+1", "\u0663\u0663", "61\x00\x00", "6\xff",
	} {
		if got, ok := impl.DecodeHex(in); got != "" || ok {
			t.Errorf("DecodeHex(%q) = %q, %v, want \"\", false", in, got, ok)
		}
	}
}

func TestDecodeHexLimit(t *testing.T) {
	got, ok := impl.DecodeHex(strings.Repeat("7e", 20000))
	if got != strings.Repeat("~", 20000) || !ok {
		t.Errorf("DecodeHex of 40000 digits returns %d bytes, %v", len(got), ok)
	}
	for _, n := range []int{39999, 40001, 40002, 80000} {
		if got, ok := impl.DecodeHex(strings.Repeat("0", n)); got != "" || ok {
			t.Errorf("DecodeHex of %d digits returns %d bytes, %v, want none, false", n, len(got), ok)
		}
	}
	if got, ok := impl.DecodeHex(strings.Repeat("7e", 19999) + "7g"); got != "" || ok {
		t.Errorf("DecodeHex with a last character g returns %d bytes, %v, want none, false", len(got), ok)
	}
}

// TestDecodeHexInvertsEncodeHex takes every text of two bytes: DecodeHex accepts
// the 256 that EncodeHex returns for one byte, and no other.
func TestDecodeHexInvertsEncodeHex(t *testing.T) {
	byText := map[string]string{}
	for b := range 256 {
		s := string([]byte{byte(b)})
		text, ok := impl.EncodeHex(s)
		if len(text) != 2 || !ok {
			t.Fatalf("EncodeHex(%q) = %q, %v, want two digits", s, text, ok)
		}
		byText[text] = s
	}
	if len(byText) != 256 {
		t.Fatalf("EncodeHex has %d texts for 256 bytes", len(byText))
	}
	for n := range 256 * 256 {
		text := string([]byte{byte(n >> 8), byte(n)})
		want, right := byText[text]
		if got, ok := impl.DecodeHex(text); got != want || ok != right {
			t.Errorf("DecodeHex(%q) = %q, %v, want %q, %v", text, got, ok, want, right)
		}
	}
}

func TestFormatInt(t *testing.T) {
	for _, c := range []struct {
		in   int
		want string
	}{
		{0, "0"},
		{7, "7"},
		{-5, "-5"},
		{10, "10"},
		{-10, "-10"},
		{907, "907"},
		{1000000000, "1000000000"},
		{1000000001, "1000000001"},
		{-1000000000, "-1000000000"},
		{math.MaxInt, "9223372036854775807"},
		{math.MinInt + 1, "-9223372036854775807"},
		{math.MinInt, "-9223372036854775808"},
	} {
		if got := impl.FormatInt(c.in); got != c.want {
			t.Errorf("FormatInt(%d) = %q, want %q", c.in, got, c.want)
		}
	}
}

func TestParseUint(t *testing.T) {
	for _, c := range []struct {
		in   string
		want int
	}{
		{"0", 0},
		{"1", 1},
		{"9", 9},
		{"10", 10},
		{"12034", 12034},
		{"999999999", 999999999},
		{"1000000000", 1000000000},
	} {
		if got, ok := impl.ParseUint(c.in); got != c.want || !ok {
			t.Errorf("ParseUint(%q) = %d, %v, want %d, true", c.in, got, ok, c.want)
		}
	}
}

func TestParseUintRejects(t *testing.T) {
	for _, in := range []string{
		"", "-", "+", // no digits
		"00", "01", "000", "007", "01000000000", // leading zeros
		"-0", "+0", "-1", "+1", "-1000000000", "--1", // signs
		"1000000001", "1000000009", "1000000010", "2000000000", "9999999999", "10000000000", // past the limit
		"4294967296", "9223372036854775807", "9223372036854775808", "18446744073709551616", "18446744073709551617", "340282366920938463463374607431768211457", // past the machine's words
		" 1", "1 ", "1 2", "1\n", "1\x00", "\t1", // white space
		"a", "1a", "a1", "0x1", "1e3", "1.0", "1,000", "1_000", "0b1", "/", ":", "1/", "1:", "\uff11", "\u0661", "1\xff",
		strings.Repeat("9", 20001), strings.Repeat("0", 20001),
	} {
		if got, ok := impl.ParseUint(in); got != 0 || ok {
			t.Errorf("ParseUint(%q) = %d, %v, want 0, false", in, got, ok)
		}
	}
}

func TestParseUintInvertsFormatInt(t *testing.T) {
	numbers := map[string]int{}
	for n := range 10000 {
		numbers[impl.FormatInt(n)] = n
		numbers[impl.FormatInt(impl.MaxUint-n)] = impl.MaxUint - n
	}
	for s, n := range numbers {
		if got, ok := impl.ParseUint(s); got != n || !ok {
			t.Errorf("ParseUint(%q) = %d, %v, want %d, true", s, got, ok, n)
		}
	}
	for _, s := range textsOver("0123456789-+ a", 4) {
		want, right := numbers[s]
		if got, ok := impl.ParseUint(s); got != want || ok != right {
			t.Errorf("ParseUint(%q) = %d, %v, want %d, %v", s, got, ok, want, right)
		}
	}
}

func TestSplitFields(t *testing.T) {
	for _, c := range []struct {
		in   string
		want []string
	}{
		{"", nil},
		{" ", nil},
		{"     ", nil},
		{"a", []string{"a"}},
		{"add 1", []string{"add", "1"}},
		{" add  1 ", []string{"add", "1"}},
		{"   lead", []string{"lead"}},
		{"trail   ", []string{"trail"}},
		{"one two   three", []string{"one", "two", "three"}},
		{"same same", []string{"same", "same"}},
		{"~!, -1;\"'", []string{"~!,", "-1;\"'"}},
	} {
		if got, ok := impl.SplitFields(c.in); !slices.Equal(got, c.want) || !ok {
			t.Errorf("SplitFields(%q) = %q, %v, want %q, true", c.in, got, ok, c.want)
		}
	}
}

// TestSplitFieldsBytes puts each byte in front of, into, behind and in place of
// the fields of a line.
func TestSplitFieldsBytes(t *testing.T) {
	for b := range 256 {
		c := string([]byte{byte(b)})
		for _, line := range []string{c, c + "a b", "a" + c + "b", "a " + c + " b", "a b" + c} {
			right := b >= 32 && b <= 126
			var want []string
			if right {
				want = fieldsOf(line)
			}
			if got, ok := impl.SplitFields(line); !slices.Equal(got, want) || ok != right {
				t.Errorf("SplitFields(%q) = %q, %v, want %q, %v", line, got, ok, want, right)
			}
		}
	}
}

func TestSplitFieldsLength(t *testing.T) {
	for _, c := range []struct {
		line string
		want []string
	}{
		{strings.Repeat("a", 600), []string{strings.Repeat("a", 600)}},
		{strings.Repeat(" ", 600), nil},
		{strings.Repeat(" ", 599) + "a", []string{"a"}},
		{"a" + strings.Repeat(" ", 598) + "b", []string{"a", "b"}},
	} {
		if got, ok := impl.SplitFields(c.line); !slices.Equal(got, c.want) || !ok {
			t.Errorf("SplitFields of 600 bytes = %q, %v, want %q, true", got, ok, c.want)
		}
		for _, line := range []string{c.line + " ", c.line + "a", " " + c.line, c.line + c.line} {
			if got, ok := impl.SplitFields(line); len(got) != 0 || ok {
				t.Errorf("SplitFields of %d bytes = %q, %v, want none, false", len(line), got, ok)
			}
		}
	}
}

func TestSplitFieldsCount(t *testing.T) {
	most := strings.Repeat("ab ", 23) + "ab"
	want := slices.Repeat([]string{"ab"}, 24)
	for _, line := range []string{most, most + " ", "  " + most + "   ", strings.ReplaceAll(most, " ", "    ")} {
		if got, ok := impl.SplitFields(line); !slices.Equal(got, want) || !ok {
			t.Errorf("SplitFields(%q) = %q, %v, want %q, true", line, got, ok, want)
		}
	}
	for _, line := range []string{most + " c", "c " + most, most + " c ", most + " " + most, strings.Repeat("a ", 300)} {
		if got, ok := impl.SplitFields(line); len(got) != 0 || ok {
			t.Errorf("SplitFields(%q) = %q, %v, want none, false", line, got, ok)
		}
	}
}

func TestSplitFieldsOfAllShortLines(t *testing.T) {
	for _, line := range textsOver(" ab~", 6) {
		want := fieldsOf(line)
		if got, ok := impl.SplitFields(line); !slices.Equal(got, want) || !ok {
			t.Errorf("SplitFields(%q) = %q, %v, want %q, true", line, got, ok, want)
		}
	}
}

func TestSplitFieldsReturnsNewMemory(t *testing.T) {
	line := "one two"
	first, _ := impl.SplitFields(line)
	second, _ := impl.SplitFields(line)
	if len(first) != 2 {
		t.Fatalf("SplitFields(%q) = %q", line, first)
	}
	first[0], first[1] = "changed", "changed"
	if want := []string{"one", "two"}; !slices.Equal(second, want) {
		t.Errorf("after a change of another result, the fields are %q, want %q", second, want)
	}
}

func TestClamp(t *testing.T) {
	for _, c := range []struct{ n, low, high, want int }{
		{3, 1, 5, 3},
		{0, 1, 5, 1},
		{9, 1, 5, 5},
		{1, 1, 5, 1},
		{5, 1, 5, 5},
		{-7, -5, -1, -5},
		{7, -5, -1, -1},
		{4, 2, 2, 2},
		{math.MinInt, 0, 9, 0},
		{math.MaxInt, 0, 9, 9},
		{17, math.MinInt, math.MaxInt, 17},
		{math.MinInt, math.MinInt, math.MaxInt, math.MinInt},
		{math.MaxInt, math.MinInt, math.MaxInt, math.MaxInt},
		// high is less than low
		{0, 5, 1, 5},
		{1, 5, 1, 5},
		{3, 5, 1, 5},
		{5, 5, 1, 5},
		{9, 5, 1, 5},
		{0, math.MaxInt, math.MinInt, math.MaxInt},
	} {
		if got := impl.Clamp(c.n, c.low, c.high); got != c.want {
			t.Errorf("Clamp(%d, %d, %d) = %d, want %d", c.n, c.low, c.high, got, c.want)
		}
	}
}

func TestClampIsInTheRange(t *testing.T) {
	for n := -5; n <= 5; n++ {
		for low := -4; low <= 4; low++ {
			for high := low; high <= 4; high++ {
				got := impl.Clamp(n, low, high)
				if got < low || got > high || low <= n && n <= high && got != n {
					t.Errorf("Clamp(%d, %d, %d) = %d", n, low, high, got)
				}
			}
		}
	}
}

// fieldsOf is the definition of the fields of a line: what is between the
// spaces, without what is empty.
func fieldsOf(line string) []string {
	return slices.DeleteFunc(strings.Split(line, " "), func(s string) bool { return s == "" })
}

// textsOver returns all texts of at most most bytes of the alphabet.
func textsOver(alphabet string, most int) []string {
	texts := []string{""}
	for first := 0; most > 0; most-- {
		end := len(texts)
		for _, s := range texts[first:end] {
			for i := range len(alphabet) {
				texts = append(texts, s+alphabet[i:i+1])
			}
		}
		first = end
	}
	return texts
}
