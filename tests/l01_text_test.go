package tests

import (
	"math"
	"slices"
	"strconv"
	"strings"
	"testing"

	"loop.example/g03307/impl"
)

func allBytes() string {
	b := make([]byte, 256)
	for i := range b {
		b[i] = byte(i)
	}
	return string(b)
}

func TestTextLimits(t *testing.T) {
	if impl.MaxInputLen != 20000 || impl.MaxUint != 1000000000 || impl.MaxLineLen != 600 || impl.MaxFieldsPerLine != 24 {
		t.Error("limits", impl.MaxInputLen, impl.MaxUint, impl.MaxLineLen, impl.MaxFieldsPerLine)
	}
}

func TestEncodeHex(t *testing.T) {
	cases := []struct{ text, hex string }{
		{"", ""},
		{"az", "617a"},
		{"\x00", "00"},
		{"\x0f\xf0", "0ff0"},
		{"\xff\xfe", "fffe"},
		{" \n~", "200a7e"},
		{"é", "c3a9"},
		{strings.Repeat("\xab", 20000), strings.Repeat("ab", 20000)},
	}
	for _, c := range cases {
		if h, ok := impl.EncodeHex(c.text); h != c.hex || !ok {
			t.Errorf("EncodeHex(%.20q): %.20q %v", c.text, h, ok)
		}
	}
	for _, length := range []int{20001, 40000, 40001} {
		if h, ok := impl.EncodeHex(strings.Repeat("a", length)); h != "" || ok {
			t.Errorf("EncodeHex of %d bytes: %.20q %v", length, h, ok)
		}
	}
}

func TestEncodeHexOfEachByte(t *testing.T) {
	for i := range 256 {
		want := strconv.FormatInt(int64(256+i), 16)[1:]
		if h, ok := impl.EncodeHex(string([]byte{byte(i)})); h != want || !ok {
			t.Errorf("EncodeHex of byte %d: %q %v", i, h, ok)
		}
	}
}

func TestDecodeHex(t *testing.T) {
	cases := []struct{ hex, text string }{
		{"", ""},
		{"617a", "az"},
		{"00", "\x00"},
		{"0ff0", "\x0f\xf0"},
		{"c3a9", "é"},
		{strings.Repeat("ab", 20000), strings.Repeat("\xab", 20000)},
	}
	for _, c := range cases {
		if s, ok := impl.DecodeHex(c.hex); s != c.text || !ok {
			t.Errorf("DecodeHex(%.20q): %.20q %v", c.hex, s, ok)
		}
	}
}

func TestDecodeHexRejects(t *testing.T) {
	cases := []string{
		"6", "617", "617a6",
		"6A", "A6", "61FF",
		"g0", "0g", "`0", "0`", "/0", "0/", ":0", "0:",
		" 61", "61 ", "6 1 ", "0x61", "+1", "-1", "\x00\x00", "é", "617a\n\n",
		strings.Repeat("ab", 20001), strings.Repeat("a", 40001), strings.Repeat("a", 39999),
	}
	for _, c := range cases {
		if s, ok := impl.DecodeHex(c); s != "" || ok {
			t.Errorf("DecodeHex(%.20q): %.20q %v", c, s, ok)
		}
	}
}

func TestDecodeHexOfEachPair(t *testing.T) {
	const digits = "0123456789abcdef"
	for a := range 256 {
		for b := range 256 {
			pair := string([]byte{byte(a), byte(b)})
			high, low := strings.IndexByte(digits, byte(a)), strings.IndexByte(digits, byte(b))
			want, right := "", high >= 0 && low >= 0
			if right {
				want = string([]byte{byte(16*high + low)})
			}
			if s, ok := impl.DecodeHex(pair); s != want || ok != right {
				t.Fatalf("DecodeHex(%q): %q %v", pair, s, ok)
			}
		}
	}
}

func TestHexIsRead(t *testing.T) {
	all := allBytes()
	texts := []string{"", "a", all, strings.Repeat(all, 78), strings.Repeat(all, 79)[:20000]}
	for _, text := range texts {
		h, ok := impl.EncodeHex(text)
		if !ok || len(h) != 2*len(text) {
			t.Fatalf("EncodeHex of %d bytes: %d %v", len(text), len(h), ok)
		}
		if back, right := impl.DecodeHex(h); back != text || !right {
			t.Errorf("DecodeHex of the hex of %d bytes: %d bytes %v", len(text), len(back), right)
		}
	}
}

func TestFormatInt(t *testing.T) {
	cases := []struct {
		n    int
		text string
	}{
		{0, "0"}, {1, "1"}, {9, "9"}, {10, "10"}, {100, "100"}, {1000000000, "1000000000"}, {1000000001, "1000000001"},
		{-1, "-1"}, {-5, "-5"}, {-10, "-10"}, {-909, "-909"},
		{math.MaxInt, "9223372036854775807"}, {math.MaxInt - 1, "9223372036854775806"},
		{math.MinInt, "-9223372036854775808"}, {math.MinInt + 1, "-9223372036854775807"},
	}
	for _, c := range cases {
		if s := impl.FormatInt(c.n); s != c.text {
			t.Errorf("FormatInt(%d): %q", c.n, s)
		}
	}
}

func TestParseUint(t *testing.T) {
	cases := []struct {
		text string
		n    int
	}{
		{"0", 0}, {"1", 1}, {"9", 9}, {"10", 10}, {"105", 105}, {"900", 900}, {"123456789", 123456789},
		{"999999999", 999999999}, {"1000000000", 1000000000},
	}
	for _, c := range cases {
		if n, ok := impl.ParseUint(c.text); n != c.n || !ok {
			t.Errorf("ParseUint(%q): %d %v", c.text, n, ok)
		}
	}
}

func TestParseUintRejects(t *testing.T) {
	cases := []string{
		"", "01", "00", "000", "007", "0000000000", "01000000000", "00000000001",
		"-", "+", "-0", "+0", "-1", "+1", "-01", "-1000000000",
		" ", " 1", "1 ", "1 2", "1\n", "\t1", "1\x00",
		"a", "1a", "a1", "0x10", "0b1", "0o7", "1e3", "1.0", "1.", ".1", "1_000", "1,000", "/", ":", "1/", "1:",
		"\xd9\xa1", "１", "²",
		"1000000001", "1234567890", "2000000000", "4294967296", "4294967297", "9223372036854775807", "9223372036854775808",
		"18446744073709551616", "18446744073709551617", "-9223372036854775808",
		strings.Repeat("9", 20000), strings.Repeat("0", 20000), strings.Repeat("0", 20000) + "1",
	}
	for _, c := range cases {
		if n, ok := impl.ParseUint(c); n != 0 || ok {
			t.Errorf("ParseUint(%.20q): %d %v", c, n, ok)
		}
	}
}

func TestDecimalIsRead(t *testing.T) {
	check := func(n int) {
		t.Helper()
		back, ok := impl.ParseUint(impl.FormatInt(n))
		right := n >= 0 && n <= impl.MaxUint
		if ok != right || right && back != n || !right && back != 0 {
			t.Errorf("ParseUint of FormatInt(%d): %d %v", n, back, ok)
		}
	}
	for n := -2000; n <= 2000; n++ {
		check(n)
		check(impl.MaxUint + n)
	}
	for p := 1; p < impl.MaxUint; p *= 10 {
		check(p - 1)
		check(p)
		check(p + 1)
	}
	check(math.MinInt)
	check(math.MaxInt)
}

func TestSplitFields(t *testing.T) {
	cases := []struct {
		line   string
		fields []string
	}{
		{"", nil},
		{" ", nil},
		{"   ", nil},
		{"a", []string{"a"}},
		{" add  1 ", []string{"add", "1"}},
		{"add 1", []string{"add", "1"}},
		{"   a   b   ", []string{"a", "b"}},
		{"b a b", []string{"b", "a", "b"}},
		{"! ~", []string{"!", "~"}},
		{"!\"#$%&'()*+,-./:;<=>?@[\\]^_`{|}~", []string{"!\"#$%&'()*+,-./:;<=>?@[\\]^_`{|}~"}},
	}
	for _, c := range cases {
		if f, ok := impl.SplitFields(c.line); !slices.Equal(f, c.fields) || !ok {
			t.Errorf("SplitFields(%q): %q %v", c.line, f, ok)
		}
	}
}

func TestSplitFieldsOfEachByte(t *testing.T) {
	for i := range 256 {
		if i == ' ' {
			continue
		}
		b := string([]byte{byte(i)})
		cases := []struct {
			line   string
			fields []string
		}{
			{b, []string{b}},
			{"x" + b, []string{"x" + b}},
			{b + "y", []string{b + "y"}},
			{"x" + b + "y", []string{"x" + b + "y"}},
			{"x " + b, []string{"x", b}},
			{b + " y", []string{b, "y"}},
			{" " + b + " ", []string{b}},
		}
		for _, c := range cases {
			want, right := c.fields, i >= 32 && i <= 126
			if !right {
				want = nil
			}
			if f, ok := impl.SplitFields(c.line); !slices.Equal(f, want) || ok != right {
				t.Errorf("SplitFields(%q): %q %v", c.line, f, ok)
			}
		}
	}
}

func TestSplitFieldsLength(t *testing.T) {
	for _, part := range []string{"x", " "} {
		f, ok := impl.SplitFields(strings.Repeat(part, 600))
		if !ok || strings.Join(f, "") != strings.TrimSpace(strings.Repeat(part, 600)) {
			t.Errorf("600 times %q: %q %v", part, f, ok)
		}
		for _, length := range []int{601, 1200, 20001} {
			if f, ok := impl.SplitFields(strings.Repeat(part, length)); len(f) != 0 || ok {
				t.Errorf("%d times %q: %d fields %v", length, part, len(f), ok)
			}
		}
	}
	if f, ok := impl.SplitFields("x" + strings.Repeat(" ", 600)); len(f) != 0 || ok {
		t.Errorf("a short field in a long line: %q %v", f, ok)
	}
	if f, ok := impl.SplitFields(strings.Repeat("x", 599) + "\n"); len(f) != 0 || ok {
		t.Errorf("a newline at the end of a line of 600 bytes: %q %v", f, ok)
	}
}

func TestSplitFieldsCount(t *testing.T) {
	for n := range 40 {
		words := make([]string, n)
		for i := range words {
			words[i] = strconv.Itoa(i)
		}
		want, right := words, n <= 24
		if !right {
			want = nil
		}
		for _, line := range []string{strings.Join(words, " "), "  " + strings.Join(words, "   ") + "  "} {
			if f, ok := impl.SplitFields(line); !slices.Equal(f, want) || ok != right {
				t.Errorf("%d fields: %q %v", n, f, ok)
			}
		}
	}
}

func TestSplitFieldsIsNewEachTime(t *testing.T) {
	first, _ := impl.SplitFields("a b c")
	first[0] = "changed"
	if second, ok := impl.SplitFields("a b c"); !ok || !slices.Equal(second, []string{"a", "b", "c"}) {
		t.Errorf("the fields of a second call: %q %v", second, ok)
	}
}

func TestClamp(t *testing.T) {
	cases := []struct{ n, low, high, want int }{
		{3, 1, 5, 3}, {1, 1, 5, 1}, {5, 1, 5, 5}, {0, 1, 5, 1}, {6, 1, 5, 5}, {9, 1, 5, 5}, {-9, 1, 5, 1},
		{-3, -5, -1, -3}, {-6, -5, -1, -5}, {0, -5, -1, -1},
		{7, 4, 4, 4}, {4, 4, 4, 4}, {1, 4, 4, 4},
		{0, 5, 1, 5}, {1, 5, 1, 5}, {3, 5, 1, 5}, {5, 5, 1, 5}, {9, 5, 1, 5}, {5, 5, 4, 5}, {4, 5, 4, 5},
		{math.MinInt, 0, 10, 0}, {math.MaxInt, 0, 10, 10},
		{0, math.MinInt, math.MaxInt, 0}, {math.MinInt, math.MinInt, math.MaxInt, math.MinInt}, {math.MaxInt, math.MinInt, math.MaxInt, math.MaxInt},
		{0, math.MaxInt, math.MinInt, math.MaxInt}, {math.MinInt, math.MaxInt, math.MinInt, math.MaxInt},
	}
	for _, c := range cases {
		if got := impl.Clamp(c.n, c.low, c.high); got != c.want {
			t.Errorf("Clamp(%d, %d, %d): %d", c.n, c.low, c.high, got)
		}
	}
}

func TestClampedIsInRange(t *testing.T) {
	for low := -6; low <= 6; low++ {
		for high := -6; high <= 6; high++ {
			for n := -8; n <= 8; n++ {
				got := impl.Clamp(n, low, high)
				inside := low <= n && n <= high
				if high < low && got != low || high >= low && (got < low || got > high) || inside && got != n {
					t.Errorf("Clamp(%d, %d, %d): %d", n, low, high, got)
				}
			}
		}
	}
}
