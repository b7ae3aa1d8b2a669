package num

import (
	"math"
	"slices"
	"strconv"
	"strings"
	"testing"
)

const (
	least    = math.MinInt
	greatest = math.MaxInt
	topWord  = math.MaxUint64
)

// decimalTexts are numbers as P101 has them printed, each with its one text.
func decimalTexts() map[int]string {
	m := map[int]string{
		0: "0", 1: "1", -1: "-1", 9: "9", 10: "10", -10: "-10", 70: "70", -70: "-70", 100: "100",
		1000000: "1000000", 1234567890: "1234567890", -987654321: "-987654321",
	}
	if strconv.IntSize == 64 {
		m[greatest], m[least] = "9223372036854775807", "-9223372036854775808"
		m[greatest-1], m[least+1] = "9223372036854775806", "-9223372036854775807"
	}
	return m
}

// hexTexts are numbers as P102 has them printed, each with its one text.
func hexTexts() map[uint64]string {
	return map[uint64]string{
		0: "0", 1: "1", 9: "9", 10: "a", 11: "b", 12: "c", 13: "d", 14: "e", 15: "f", 16: "10", 254: "fe", 255: "ff", 256: "100",
		0x123456789abcdef0: "123456789abcdef0",
		1 << 63:            "8000000000000000",
		1<<60 - 1:          "fffffffffffffff",
		1 << 60:            "1000000000000000",
		topWord - 1:        "fffffffffffffffe",
		topWord:            "ffffffffffffffff",
	}
}

// manyInts are numbers at and about all powers of 2 and of 10, on both sides of 0.
func manyInts() []int {
	var l []int
	for d := -3; d <= 3; d++ {
		for k := range strconv.IntSize {
			l = append(l, 1<<k+d, -(1<<k)+d)
		}
		for p := 1; ; p *= 10 {
			l = append(l, p+d, -p+d)
			if p > greatest/10 {
				break
			}
		}
	}
	for n := -2000; n <= 2000; n++ {
		l = append(l, n)
	}
	return unlike(l)
}

// manyWords are numbers at and about all powers of 2, and with each digit at each place.
func manyWords() []uint64 {
	var l []uint64
	for k := range 64 {
		for d := uint64(0); d <= 6; d++ {
			l = append(l, 1<<k+d-3)
		}
	}
	for place := range 16 {
		for d := range uint64(16) {
			l = append(l, d<<(4*place))
		}
	}
	return unlike(l)
}

func unlike[T int | uint64](l []T) []T {
	slices.Sort(l)
	return slices.Compact(l)
}

// textsOf are all texts of at most so many of these signs.
func textsOf(signs string, most int) []string {
	all, longest := []string{""}, []string{""}
	for range most {
		var longer []string
		for _, s := range longest {
			for i := range len(signs) {
				longer = append(longer, s+signs[i:i+1])
			}
		}
		all, longest = append(all, longer...), longer
	}
	return all
}

func wantParse(t *testing.T, s string, n int, ok bool) {
	t.Helper()
	if m, yes := Parse(s); m != n || yes != ok {
		t.Errorf("Parse(%q): %d %v, not %d %v", s, m, yes, n, ok)
	}
}

func wantUnhex(t *testing.T, s string, w uint64, ok bool) {
	t.Helper()
	if m, yes := Unhex(s); m != w || yes != ok {
		t.Errorf("Unhex(%q): %d %v, not %d %v", s, m, yes, w, ok)
	}
}

// wantWords: with a false there is no word, and with a true just those.
func wantWords(t *testing.T, s string, ok bool, want ...string) {
	t.Helper()
	if l, yes := Words(s); yes != ok || !slices.Equal(l, want) {
		t.Errorf("Words(%q): %q %v, not %q %v", s, l, yes, want, ok)
	}
}

func TestP101PrintAndParse(t *testing.T) {
	for n, s := range decimalTexts() {
		if got := Print(n); got != s {
			t.Errorf("Print(%d): %q, not %q", n, got, s)
		}
		wantParse(t, s, n, true)
	}
	for _, n := range manyInts() {
		s := strconv.Itoa(n)
		if got := Print(n); got != s {
			t.Errorf("Print(%d): %q", n, got)
		}
		wantParse(t, s, n, true)
	}
}

func TestP101ParseOfOtherTexts(t *testing.T) {
	for _, s := range []string{
		"", "-", "--", "--1", "-0", "00", "07", "-07", "-00", "+1", "+0", "+", "1-", "1-1", "- 1",
		" ", " 1", "1 ", "1 2", "\t1", "1\n", "1\x00", "\x00", "1_000", "1,000", "1.", "1.0", ".1", "1e3", "0x1", "0b1",
		"a", "f", "1a", "a1", "12f", "-a", "/", ":", "1/", "1:", "\u0661", "\uff11", "\xff", "\u22121", "one", "0-", "0 ",
	} {
		wantParse(t, s, 0, false)
	}
}

func TestP101ParseByEachByte(t *testing.T) {
	for c := range 256 {
		one := string([]byte{byte(c)})
		digit := c >= '0' && c <= '9'
		n := 0
		if digit {
			n = c - '0'
		}
		wantParse(t, one, n, digit)
		wantParse(t, "-"+one, -n, digit && n > 0)
		if digit {
			n += 40
		}
		wantParse(t, "4"+one, n, digit)
	}
}

func TestP101ParseBeyondInt(t *testing.T) {
	if strconv.IntSize != 64 {
		t.Skip("the texts are those of an int of 64 bits")
	}
	for _, s := range []string{
		"9223372036854775808", "-9223372036854775809", "9223372036854775809", "9223372036854775810", "-9223372036854775810",
		"9300000000000000000", "-9300000000000000000", "9999999999999999999", "-9999999999999999999",
		"10000000000000000000", "-10000000000000000000",
		// About 2^64, and so far beyond it that what wraps round is small again.
		"18446744073709551615", "18446744073709551616", "18446744073709551617", "-18446744073709551617", "18446744073709551626",
		"92233720368547758070", "-92233720368547758080", "184467440737095516170", "36893488147419103233",
		"340282366920938463463374607431768211457",
	} {
		wantParse(t, s, 0, false)
	}
	wantParse(t, strings.Repeat("9", 100000), 0, false)
	wantParse(t, "1"+strings.Repeat("0", 100000), 0, false)
	wantParse(t, strings.Repeat("0", 100000)+"1", 0, false)
}

func TestP102HexAndUnhex(t *testing.T) {
	for w, s := range hexTexts() {
		if got := Hex(w); got != s {
			t.Errorf("Hex(%d): %q, not %q", w, got, s)
		}
		wantUnhex(t, s, w, true)
	}
	for _, w := range manyWords() {
		s := strconv.FormatUint(w, 16)
		if got := Hex(w); got != s {
			t.Errorf("Hex(%d): %q", w, got)
		}
		wantUnhex(t, s, w, true)
	}
}

func TestP102UnhexOfOtherTexts(t *testing.T) {
	for _, s := range []string{
		"", "-", "-0", "-1", "+1", "00", "01", "0f", "0ff", "0x1", "0xff", "x", "g", "1g", "g1", "fg",
		"A", "F", "FF", "fF", "Ff", "1A", " ", " 1", "1 ", "f f", "\tf", "f\n", "f\x00", "\x00", "f.", "f_f", "/", ":", "`", "@", "\uff46", "\xff",
		"0000000000000001", "0ffffffffffffffff",
	} {
		wantUnhex(t, s, 0, false)
	}
}

func TestP102UnhexByEachByte(t *testing.T) {
	for c := range 256 {
		one := string([]byte{byte(c)})
		n := strings.IndexByte("0123456789abcdef", byte(c))
		digit := n >= 0
		wantUnhex(t, one, uint64(max(n, 0)), digit)
		if digit {
			n += 64
		}
		wantUnhex(t, "4"+one, uint64(max(n, 0)), digit)
	}
}

func TestP102UnhexOfMoreThan16Digits(t *testing.T) {
	for _, s := range []string{
		"10000000000000000", "10000000000000001", "1ffffffffffffffff", "fffffffffffffffff", "ffffffffffffffff0", "80000000000000000",
		"100000000000000000000000000000001",
	} {
		wantUnhex(t, s, 0, false)
	}
	wantUnhex(t, strings.Repeat("f", 100000), 0, false)
	wantUnhex(t, "1"+strings.Repeat("0", 100000), 0, false)
	wantUnhex(t, strings.Repeat("0", 100000), 0, false)
}

func TestP103Words(t *testing.T) {
	wantWords(t, "", true)
	wantWords(t, "a", true, "a")
	wantWords(t, "go on", true, "go", "on")
	wantWords(t, "a b c", true, "a", "b", "c")
	wantWords(t, "carry 3 7 8", true, "carry", "3", "7", "8")
	wantWords(t, "twice twice", true, "twice", "twice")
	many := slices.Repeat([]string{"w"}, 100000)
	wantWords(t, strings.Join(many, " "), true, many...)
}

func TestP103WordsOfOtherTexts(t *testing.T) {
	for _, s := range []string{
		" ", "  ", "   ", " a", "a ", " a ", "  a", "a  ", "a  b", "a   b", "a b  c", "a  b c", " a b", "a b ", "a b  ", "-  -",
	} {
		wantWords(t, s, false)
	}
}

// TestP103OnlyTheBlankParts: each byte but the blank is a word's own, those that look empty too.
func TestP103OnlyTheBlankParts(t *testing.T) {
	for c := range 256 {
		if c == ' ' {
			continue
		}
		one := string([]byte{byte(c)})
		wantWords(t, one, true, one)
		wantWords(t, one+one, true, one+one)
		wantWords(t, "a"+one+"b", true, "a"+one+"b")
		wantWords(t, one+" "+one, true, one, one)
	}
	wantWords(t, "a\tb\nc\rd\x00e\u00a0f\u3000g", true, "a\tb\nc\rd\x00e\u00a0f\u3000g")
}

func TestP103Join(t *testing.T) {
	for _, c := range []struct {
		want string
		l    []string
	}{
		{"", nil},
		{"", []string{}},
		{"", []string{""}},
		{"x", []string{"x"}},
		{"x y z", []string{"x", "y", "z"}},
		{"go on", []string{"go", "on"}},
		{" ", []string{"", ""}},
		{"x ", []string{"x", ""}},
		{" x", []string{"", "x"}},
		{"x  y", []string{"x", "", "y"}},
		{"a b c", []string{"a b", "c"}},
		{"     ", []string{" ", " ", " "}},
		{"\xff \x00", []string{"\xff", "\x00"}},
	} {
		if got := Join(c.l...); got != c.want {
			t.Errorf("Join(%q): %q, not %q", c.l, got, c.want)
		}
	}
}

func TestP103JoinLeavesItsTexts(t *testing.T) {
	l := []string{"a", "b", "spare"}
	Join(l[:2]...)
	if !slices.Equal(l, []string{"a", "b", "spare"}) {
		t.Errorf("Join changed what was handed in: %q", l)
	}
}

// TestP103WordsAndJoin: a text is words just if joining what it is split into makes it again, of words that each have a byte and no blank.
func TestP103WordsAndJoin(t *testing.T) {
	for _, s := range textsOf("ab \t", 7) {
		// By what the promise says of the text as a whole, not by how Words goes through it.
		is := !strings.HasPrefix(s, " ") && !strings.HasSuffix(s, " ") && !strings.Contains(s, "  ")
		l, ok := Words(s)
		if ok != is {
			t.Fatalf("Words(%q): %v", s, ok)
		}
		if !ok && len(l) > 0 {
			t.Fatalf("Words(%q): %q beside a false", s, l)
		}
		if ok && Join(l...) != s {
			t.Fatalf("Words(%q): %q", s, l)
		}
		if slices.Contains(l, "") || strings.Contains(strings.Join(l, ""), " ") {
			t.Fatalf("Words(%q): %q", s, l)
		}
	}
}

func TestP104WaysBack(t *testing.T) {
	for _, n := range manyInts() {
		wantParse(t, Print(n), n, true)
	}
	for _, w := range manyWords() {
		wantUnhex(t, Hex(w), w, true)
	}
}

// TestP104WhatIsToldIsPrintedSoAgain goes through all short texts of signs that numbers have, and of some that they have not.
func TestP104WhatIsToldIsPrintedSoAgain(t *testing.T) {
	for _, s := range textsOf("-+0127 9afAg", 5) {
		n, ok := Parse(s)
		if ok && Print(n) != s {
			t.Fatalf("Parse(%q): %d, which is printed %q", s, n, Print(n))
		}
		if m, err := strconv.Atoi(s); ok != (err == nil && strconv.Itoa(m) == s) || !ok && n != 0 {
			t.Fatalf("Parse(%q): %d %v", s, n, ok)
		}
		w, ok := Unhex(s)
		if ok && Hex(w) != s {
			t.Fatalf("Unhex(%q): %d, which is printed %q", s, w, Hex(w))
		}
		if m, err := strconv.ParseUint(s, 16, 64); ok != (err == nil && strconv.FormatUint(m, 16) == s) || !ok && w != 0 {
			t.Fatalf("Unhex(%q): %d %v", s, w, ok)
		}
	}
}

func TestP104NumbersThatDiffer(t *testing.T) {
	differ(t, "Print", manyInts(), Print)
	differ(t, "Hex", manyWords(), Hex)
}

func differ[T comparable](t *testing.T, what string, l []T, text func(T) string) {
	t.Helper()
	told := map[string]T{}
	for _, x := range l {
		s := text(x)
		if y, twice := told[s]; twice {
			t.Errorf("%s: %v and %v are both %q", what, y, x, s)
		}
		told[s] = x
	}
}

func TestExamplesOfTheChapter(t *testing.T) {
	wantParse(t, "-0", 0, false)
	wantParse(t, "07", 0, false)
	wantWords(t, "a  b", false)
}

func FuzzTexts(f *testing.F) {
	for _, s := range []string{"", "0", "-1", "07", "9223372036854775808", "ffffffffffffffff", "10000000000000000", "a b", "a  b", " a"} {
		f.Add(s)
	}
	f.Fuzz(func(t *testing.T, s string) {
		if n, ok := Parse(s); ok && Print(n) != s || !ok && n != 0 {
			t.Errorf("Parse(%q): %d %v", s, n, ok)
		}
		if w, ok := Unhex(s); ok && Hex(w) != s || !ok && w != 0 {
			t.Errorf("Unhex(%q): %d %v", s, w, ok)
		}
		if l, ok := Words(s); ok && Join(l...) != s || !ok && len(l) > 0 {
			t.Errorf("Words(%q): %q %v", s, l, ok)
		}
	})
}
