package skill

import (
	"math"
	"slices"
	"strconv"
	"strings"
	"testing"
)

const (
	least    = math.MinInt
	greatest = math.MaxInt
	top      = math.MaxUint64
	// alphabet has the skills' signs by the chapter's words, one behind the other.
	alphabet = "abcdefghijklmnopqrstuvwxyz" + "ABCDEFGHIJKLMNOPQRSTUVWXYZ" + "0123456789" + "+" + "/"
)

// edges are the skills at both ends, and where one kind of signs ends and the next one begins.
func edges() []int {
	return []int{0, 1, 25, 26, 31, 32, 51, 52, 61, 62, 63}
}

// strangers are numbers of no skill, such too that leave a skill's number if their upper bits are lost.
func strangers() []int {
	return []int{least, least + 1, least + 5, -1 << 32, -1<<32 + 5, -256, -128, -65, -64, -63, -61, -2, -1,
		64, 65, 66, 100, 127, 128, 255, 256, 257, 1 << 32, 1<<32 + 5, greatest - 63, greatest - 1, greatest}
}

// manySets are sets of few skills, of many, of all in a row, and mixed ones.
func manySets() []uint64 {
	l := []uint64{0, top, 0x5555555555555555, 0xaaaaaaaaaaaaaaaa, 0x0123456789abcdef}
	for k := range 64 {
		l = append(l, 1<<k, 1<<k-1, 1<<k+1, top<<k, top-1<<k)
		for j := range k {
			l = append(l, 1<<k|1<<j, top-1<<k-1<<j, 1<<k-1<<j)
		}
	}
	for w := range uint64(1 << 10) {
		l = append(l, w, w<<22, w<<47, w<<54, top-w)
	}
	for w := range uint64(5000) {
		mixed := (w + 1) * 0x9e3779b97f4a7c15
		l = append(l, mixed^mixed>>29)
	}
	slices.Sort(l)
	return slices.Compact(l)
}

// setsOf are all sets of none but these skills.
func setsOf(skills ...int) []uint64 {
	l := []uint64{0}
	for _, n := range skills {
		for _, w := range slices.Clone(l) {
			l = append(l, w+power(n))
		}
	}
	return l
}

// power is bit n's weight, by so many doublings.
func power(n int) uint64 {
	w := uint64(1)
	for range n {
		w += w
	}
	return w
}

// reckonedList is List by its words: the places of the digit 1, from the last digit on.
func reckonedList(w uint64) []int {
	digits := []byte(strconv.FormatUint(w, 2))
	slices.Reverse(digits)
	var l []int
	for n, c := range digits {
		if c == '1' {
			l = append(l, n)
		}
	}
	return l
}

// reckonedOf is Of by its words: the weights of those that are asked for, each once.
func reckonedOf(l []int) uint64 {
	var w uint64
	for n := range 64 {
		if slices.Contains(l, n) {
			w += power(n)
		}
	}
	return w
}

func reckonedHas(a, b uint64) bool {
	of := reckonedList(a)
	for _, n := range reckonedList(b) {
		if !slices.Contains(of, n) {
			return false
		}
	}
	return true
}

func reckonedText(w uint64) string {
	s := ""
	for _, n := range reckonedList(w) {
		s += alphabet[n : n+1]
	}
	if s == "" {
		return "-"
	}
	return s
}

// reckonedParse goes over the signs, each of which must stand behind the last one in the alphabet.
func reckonedParse(s string) (uint64, bool) {
	if s == "-" {
		return 0, true
	}
	var w uint64
	last := -1
	for i := range len(s) {
		n := strings.Index(alphabet, s[i:i+1])
		if n <= last {
			return 0, false
		}
		w += power(n)
		last = n
	}
	return w, s != ""
}

func wantOf(t *testing.T, want uint64, l ...int) {
	t.Helper()
	if got := Of(l...); got != want {
		t.Errorf("Of(%d): %#x, not %#x", l, got, want)
	}
}

func wantList(t *testing.T, w uint64, want ...int) {
	t.Helper()
	if got := List(w); !slices.Equal(got, want) {
		t.Errorf("List(%#x): %d, not %d", w, got, want)
	}
}

func wantHas(t *testing.T, a, b uint64, want bool) {
	t.Helper()
	if got := Has(a, b); got != want {
		t.Errorf("Has(%#x, %#x): %t, not %t", a, b, got, want)
	}
}

func wantCount(t *testing.T, w uint64, want int) {
	t.Helper()
	if got := Count(w); got != want {
		t.Errorf("Count(%#x): %d, not %d", w, got, want)
	}
}

func wantText(t *testing.T, w uint64, want string) {
	t.Helper()
	if got := Text(w); got != want {
		t.Errorf("Text(%#x): %q, not %q", w, got, want)
	}
}

func wantParse(t *testing.T, s string, want uint64, ok bool) {
	t.Helper()
	if got, y := Parse(s); got != want || y != ok {
		t.Errorf("Parse(%q): %#x %t, not %#x %t", s, got, y, want, ok)
	}
}

func wantAsReckoned(t *testing.T, s string) {
	t.Helper()
	w, ok := reckonedParse(s)
	wantParse(t, s, w, ok)
}

func TestP1201Of(t *testing.T) {
	wantOf(t, 0)
	wantOf(t, 0, nil...)
	wantOf(t, 0, []int{}...)
	wantOf(t, 1, 0)
	wantOf(t, 2, 1)
	wantOf(t, 5, 0, 2)
	wantOf(t, 1<<31, 31)
	wantOf(t, 1<<32, 32)
	wantOf(t, 1<<62, 62)
	wantOf(t, 1<<63, 63)
	wantOf(t, 1|1<<63, 63, 0)
	// Neither the order counts, nor how often one comes.
	wantOf(t, 7, 2, 0, 1)
	wantOf(t, 5, 2, 2, 0, 2, 0)
	wantOf(t, 1<<63, 63, 63)
	for n := range 64 {
		wantOf(t, power(n), n)
		wantOf(t, power(n), n, n)
		wantOf(t, power(n), n, n, n)
	}
}

func TestP1201OfStrangers(t *testing.T) {
	for _, n := range strangers() {
		wantOf(t, 0, n)
		wantOf(t, 0, n, n)
		wantOf(t, 5, n, 0, 2)
		wantOf(t, 5, 0, n, 2)
		wantOf(t, 5, 0, 2, n)
		wantOf(t, 1|1<<63, n, 63, 0, n)
	}
	wantOf(t, 0, strangers()...)
	wantOf(t, 0x21, slices.Concat([]int{5}, strangers(), []int{0})...)
}

func TestP1201OfAsReckoned(t *testing.T) {
	var l []int
	for n := -70; n <= 140; n++ {
		l = append(l, n)
		wantOf(t, reckonedOf(l), l...)
		back := slices.Clone(l)
		slices.Reverse(back)
		wantOf(t, reckonedOf(l), back...)
	}
	for step := 1; step < 80; step++ {
		l = nil
		for i := range 300 {
			l = append(l, i*step%131-30)
			wantOf(t, reckonedOf(l), l...)
		}
	}
}

func TestP1201OfLeavesItsNumbers(t *testing.T) {
	for _, l := range [][]int{{63, 0, 5, 5, -1, 64, 1, 2}, {least, greatest, 3, 1, 2, 0, 9, 9}} {
		for n := range len(l) + 1 {
			before := slices.Clone(l)
			Of(l[:n]...)
			if !slices.Equal(l, before) {
				t.Errorf("Of changed %d of %d into %d", n, before, l)
			}
		}
	}
}

func TestP1201List(t *testing.T) {
	wantList(t, 0)
	wantList(t, 1, 0)
	wantList(t, 2, 1)
	wantList(t, 5, 0, 2)
	wantList(t, 10, 1, 3)
	wantList(t, 1<<31|1<<32, 31, 32)
	wantList(t, 1<<63, 63)
	wantList(t, 1|1<<63, 0, 63)
	wantList(t, 3<<62, 62, 63)
	var every []int
	for n := range 64 {
		wantList(t, power(n), n)
		every = append(every, n)
		wantList(t, top>>(63-n), every...)
	}
	for _, w := range manySets() {
		wantList(t, w, reckonedList(w)...)
	}
}

func TestP1201Count(t *testing.T) {
	wantCount(t, 0, 0)
	wantCount(t, 1, 1)
	wantCount(t, 7, 3)
	wantCount(t, 8, 1)
	wantCount(t, 1<<63, 1)
	wantCount(t, 1|1<<63, 2)
	wantCount(t, top-1, 63)
	wantCount(t, top>>1, 63)
	wantCount(t, top, 64)
	for _, w := range manySets() {
		wantCount(t, w, len(reckonedList(w)))
	}
}

func TestP1201Has(t *testing.T) {
	wantHas(t, 0, 0, true)
	wantHas(t, 1, 0, true)
	wantHas(t, 0, 1, false)
	wantHas(t, 1, 1, true)
	wantHas(t, 7, 5, true)
	wantHas(t, 5, 7, false)
	// A greater number need not have what a smaller one has.
	wantHas(t, 8, 7, false)
	wantHas(t, 1<<63, 1, false)
	wantHas(t, 6, 3, false)
	wantHas(t, 3, 6, false)
	wantHas(t, 1<<63, 1<<63, true)
	wantHas(t, 0, 1<<63, false)
	wantHas(t, top>>1, 1<<63, false)
	wantHas(t, top, 1<<63, true)
	wantHas(t, top, top, true)
	wantHas(t, top-1, top, false)
	for a := range 64 {
		wantHas(t, top-power(a), power(a), false)
		wantHas(t, power(a), top-power(a), false)
		for b := range 64 {
			wantHas(t, power(a), power(b), a == b)
			wantHas(t, power(a)|power(b), power(a), true)
			wantHas(t, power(a), power(a)|power(b), a == b)
		}
	}
}

func TestP1201HasAsReckoned(t *testing.T) {
	some := slices.Concat(setsOf(0, 5, 31, 32, 63), []uint64{top, top - 1, top >> 1, 0x5555555555555555, 0xaaaaaaaaaaaaaaaa})
	for i, w := range manySets() {
		if i%100 == 0 {
			some = append(some, w)
		}
	}
	for _, a := range some {
		for _, b := range some {
			wantHas(t, a, b, reckonedHas(a, b))
			wantHas(t, a|b, b, true)
		}
	}
}

func TestP1202Text(t *testing.T) {
	wantText(t, 0, "-")
	wantText(t, 1, "a")
	wantText(t, 1<<25, "z")
	wantText(t, 1<<26, "A")
	wantText(t, 1<<51, "Z")
	wantText(t, 1<<52, "0")
	wantText(t, 1<<61, "9")
	wantText(t, 1<<62, "+")
	wantText(t, 1<<63, "/")
	wantText(t, 5, "ac")
	wantText(t, 1<<26|1<<52|1<<62|1<<63, "A0+/")
	wantText(t, 1<<25|1<<26|1<<51|1<<52|1<<61|1<<62, "zAZ09+")
	wantText(t, 1|1<<63, "a/")
	wantText(t, top, alphabet)
	for n := range 64 {
		wantText(t, power(n), alphabet[n:n+1])
		wantText(t, top>>n, alphabet[:64-n])
		wantText(t, top-(power(n)-1), alphabet[n:])
	}
	for _, w := range manySets() {
		wantText(t, w, reckonedText(w))
	}
}

func TestP1202Parse(t *testing.T) {
	wantParse(t, "-", 0, true)
	wantParse(t, "a", 1, true)
	wantParse(t, "z", 1<<25, true)
	wantParse(t, "A", 1<<26, true)
	wantParse(t, "Z", 1<<51, true)
	wantParse(t, "0", 1<<52, true)
	wantParse(t, "9", 1<<61, true)
	wantParse(t, "+", 1<<62, true)
	wantParse(t, "/", 1<<63, true)
	wantParse(t, "ac", 5, true)
	wantParse(t, "aA0+/", 1|1<<26|1<<52|3<<62, true)
	wantParse(t, alphabet, top, true)
	wantParse(t, alphabet[1:], top-1, true)
	wantParse(t, alphabet[:63], top>>1, true)
	for _, w := range manySets() {
		wantParse(t, reckonedText(w), w, true)
	}
}

func TestP1202ParseErrors(t *testing.T) {
	for _, s := range []string{
		"",
		// Out of their order, be it that of the letters' codes.
		"ca", "Aa", "0a", "0A", "+0", "/+", "/a", "+a", "abdc", "acb", "AaB", "+/a", "za", "bca",
		// Twice.
		"aa", "aac", "acc", "aca", "//", "abca", "ZZ", "99",
		// A line for none stands alone.
		"--", "-a", "a-", "a-c", "-/", "---",
		// Signs of no skill.
		" ", " a", "a ", "a c", "a,c", "_", ".", "=", "*", "a\n", "\na", "\x00", "a\x00", "\x00a", "- ", " -",
		// Bytes beyond the plain signs.
		"\xff", "a\xff", "ä", "aä", "é", "а", "−", "–", "\x80", "\xe1",
		alphabet + "a", alphabet + "/", alphabet + "-", alphabet + " ", "-" + alphabet, "a" + alphabet,
		strings.Repeat("a", 64), strings.Repeat("a", 65), strings.Repeat("-", 64), strings.Repeat(alphabet, 2), strings.Repeat(alphabet, 1000),
	} {
		wantParse(t, s, 0, false)
		wantAsReckoned(t, s)
	}
}

// TestP1202ParseOfFewBytes tries every byte, every two, and a third one between, ahead, and behind.
func TestP1202ParseOfFewBytes(t *testing.T) {
	for c := range 256 {
		wantAsReckoned(t, string([]byte{byte(c)}))
		for d := range 256 {
			two := []byte{byte(c), byte(d)}
			wantAsReckoned(t, string(two))
			for _, e := range []byte("aMz0/-") {
				wantAsReckoned(t, string([]byte{byte(c), e, byte(d)}))
			}
			wantAsReckoned(t, string(two)+"/")
			wantAsReckoned(t, "a"+string(two))
		}
	}
}

// TestP1202ParseOfSpoiledTexts puts a sign into each text at each place, and takes one out, sets another one there, and changes places.
func TestP1202ParseOfSpoiledTexts(t *testing.T) {
	for _, w := range slices.Concat(setsOf(edges()[:8]...), []uint64{top, top - 1, top >> 1, top - 1<<30, 0x5555555555555555}) {
		s := reckonedText(w)
		for i := range len(s) + 1 {
			for _, c := range []string{"a", "b", "z", "A", "Z", "0", "5", "9", "+", "/", "-", " ", "\xff"} {
				wantAsReckoned(t, s[:i]+c+s[i:])
				if i < len(s) {
					wantAsReckoned(t, s[:i]+c+s[i+1:])
				}
			}
			if i < len(s) {
				wantAsReckoned(t, s[:i]+s[i+1:])
			}
			if i+1 < len(s) {
				wantAsReckoned(t, s[:i]+s[i+1:i+2]+s[i:i+1]+s[i+2:])
			}
		}
	}
}

func TestP1203WaysBack(t *testing.T) {
	for _, w := range manySets() {
		wantOf(t, w, List(w)...)
		wantParse(t, Text(w), w, true)
	}
	for _, s := range []string{"-", "a", "/", "ac", "zA", "Z0", "9+", "+/", "aA0+/", alphabet} {
		w, ok := Parse(s)
		if !ok {
			t.Errorf("Parse(%q): none", s)
		}
		wantText(t, w, s)
	}
	for _, l := range [][]int{nil, {0}, {63}, {0, 63}, {1, 2, 3}, edges()} {
		wantList(t, Of(l...), l...)
	}
}

func TestP1203NoTwoSetsAreTheSame(t *testing.T) {
	texts := map[string]uint64{}
	for _, w := range manySets() {
		s := Text(w)
		if other, twice := texts[s]; twice {
			t.Errorf("%q is the text of %#x and of %#x", s, other, w)
		}
		texts[s] = w
	}
}

func TestP1203HasIsAnOrder(t *testing.T) {
	some := slices.Concat(setsOf(0, 25, 26, 31, 32, 63), []uint64{top, top - 1, top >> 1, top - 1<<32})
	for _, a := range some {
		wantHas(t, a, a, true)
		for _, b := range some {
			if Has(a, b) && Has(b, a) && a != b {
				t.Errorf("%#x and %#x have each other", a, b)
			}
			if Has(a, b) != (a|b == a) {
				t.Errorf("Has(%#x, %#x): %t", a, b, Has(a, b))
			}
			for _, c := range some {
				if Has(a, b) && Has(b, c) && !Has(a, c) {
					t.Errorf("%#x has %#x, and that %#x, but the first has not the third", a, b, c)
				}
			}
		}
	}
}

func TestExamplesOfTheChapter(t *testing.T) {
	wantText(t, 5, "ac")
	wantParse(t, "ca", 0, false)
}

func FuzzSet(f *testing.F) {
	for _, w := range []uint64{0, 1, 5, 1 << 63, top, 0x0123456789abcdef} {
		f.Add(w, w/3)
	}
	f.Fuzz(func(t *testing.T, a, b uint64) {
		wantList(t, a, reckonedList(a)...)
		wantOf(t, a, List(a)...)
		wantCount(t, a, len(reckonedList(a)))
		wantText(t, a, reckonedText(a))
		wantParse(t, Text(a), a, true)
		wantHas(t, a, b, reckonedHas(a, b))
		wantHas(t, a, a&b, true)
	})
}

func FuzzParse(f *testing.F) {
	for _, s := range []string{"", "-", "a", "ac", "ca", "aa", "a-", "zAZ09+/", alphabet, alphabet + "a", "\xff"} {
		f.Add(s)
	}
	f.Fuzz(func(t *testing.T, s string) {
		wantAsReckoned(t, s)
		if w, ok := Parse(s); ok {
			wantText(t, w, s)
		}
	})
}

func FuzzOf(f *testing.F) {
	f.Add(0, 2, 64, -1)
	f.Add(63, 63, least, greatest)
	f.Fuzz(func(t *testing.T, a, b, c, d int) {
		l := []int{a, b, c, d}
		wantOf(t, reckonedOf(l), l...)
		wantOf(t, reckonedOf(l[:1]), a)
		wantOf(t, reckonedOf(l[1:3]), b, c)
	})
}
