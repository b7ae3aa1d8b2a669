package idset

import (
	"math"
	"slices"
	"testing"
)

const (
	least    = math.MinInt
	greatest = math.MaxInt
	many     = 100_003
)

// edges are numbers whose differences leave an int, and such as an int of fewer bits takes for one another.
func edges() []int {
	return []int{least, least + 1, -1 << 32, -1, 0, 1, 2, 1 << 32, 1<<32 + 1, greatest - 1, greatest}
}

// stands tells whether a number is in a list, by the chapter's words: some place of it has that number.
func stands(l []int, n int) bool {
	for _, m := range l {
		if m == n {
			return true
		}
	}
	return false
}

// rising puts in, one by one, the least of the numbers that are greater than all that are in.
func rising(l []int) []int {
	var told []int
	for {
		at := -1
		for i, n := range l {
			if (len(told) == 0 || n > told[len(told)-1]) && (at < 0 || n < l[at]) {
				at = i
			}
		}
		if at < 0 {
			return told
		}
		told = append(told, l[at])
	}
}

// thoseOf are the numbers of a list of which it is so, rising, each once.
func thoseOf(l []int, so func(n int) bool) []int {
	var told []int
	for _, n := range rising(l) {
		if so(n) {
			told = append(told, n)
		}
	}
	return told
}

func wantOf(t *testing.T, l []int, want ...int) {
	t.Helper()
	if got := Of(l...); !slices.Equal(got, want) {
		t.Fatalf("Of(%d): %d, not %d", l, got, want)
	}
}

func wantRight(t *testing.T, l []int, want bool) {
	t.Helper()
	if got := Right(l); got != want {
		t.Fatalf("Right(%d): %t, not %t", l, got, want)
	}
}

func wantHas(t *testing.T, l []int, n int, want bool) {
	t.Helper()
	if got := Has(l, n); got != want {
		t.Fatalf("Has(%d, %d): %t, not %t", l, n, got, want)
	}
}

func wantOr(t *testing.T, a, b []int, want ...int) {
	t.Helper()
	if got := Or(a, b); !slices.Equal(got, want) {
		t.Fatalf("Or(%d, %d): %d, not %d", a, b, got, want)
	}
}

func wantAnd(t *testing.T, a, b []int, want ...int) {
	t.Helper()
	if got := And(a, b); !slices.Equal(got, want) {
		t.Fatalf("And(%d, %d): %d, not %d", a, b, got, want)
	}
}

func wantLess(t *testing.T, a, b []int, want ...int) {
	t.Helper()
	if got := Less(a, b); !slices.Equal(got, want) {
		t.Fatalf("Less(%d, %d): %d, not %d", a, b, got, want)
	}
}

func wantWithin(t *testing.T, a, b []int, want bool) {
	t.Helper()
	if got := Within(a, b); got != want {
		t.Fatalf("Within(%d, %d): %t, not %t", a, b, got, want)
	}
}

func wantAbove(t *testing.T, l []int, n, want int, is bool) {
	t.Helper()
	if got, ok := Above(l, n); got != want || ok != is {
		t.Fatalf("Above(%d, %d): %d %t, not %d %t", l, n, got, ok, want, is)
	}
}

// wantListAlike asks what is asked of one list, as the chapter's words say it.
func wantListAlike(t *testing.T, l []int, asked []int) {
	t.Helper()
	s := rising(l)
	wantOf(t, l, s...)
	wantRight(t, l, slices.Equal(l, s))
	for _, n := range asked {
		wantHas(t, l, n, stands(l, n))
		above := thoseOf(l, func(m int) bool { return m > n })
		if len(above) == 0 {
			wantAbove(t, l, n, 0, false)
		} else {
			wantAbove(t, l, n, above[0], true)
		}
	}
}

// wantPairAlike asks what is asked of two lists, as the chapter's words say it.
func wantPairAlike(t *testing.T, a, b []int) {
	t.Helper()
	wantOr(t, a, b, rising(slices.Concat(a, b))...)
	wantAnd(t, a, b, thoseOf(a, func(n int) bool { return stands(b, n) })...)
	less := thoseOf(a, func(n int) bool { return !stands(b, n) })
	wantLess(t, a, b, less...)
	wantWithin(t, a, b, len(less) == 0)
}

// listsOf are all lists of up to so many of the numbers, in any order, and with any of them again.
func listsOf(numbers []int, most int) [][]int {
	lists := [][]int{nil}
	from := 0
	for range most {
		to := len(lists)
		for _, l := range lists[from:to] {
			for _, n := range numbers {
				lists = append(lists, append(slices.Clone(l), n))
			}
		}
		from = to
	}
	return lists
}

// mixed is a list of length numbers out of few, such that are far from one another among them.
func mixed(seed uint32, length, few int) []int {
	w := seed
	draw := func(n int) int {
		w = w*1664525 + 1013904223
		return int(w>>8) % n
	}
	l := make([]int, 0, length)
	for range length {
		n := draw(few) - few/2
		switch draw(8) {
		case 0:
			n <<= 32
		case 1:
			n = least + few/2 + n
		case 2:
			n = greatest - few/2 + n
		}
		l = append(l, n)
	}
	return l
}

func TestP1701Of(t *testing.T) {
	wantOf(t, nil)
	wantOf(t, []int{})
	wantOf(t, []int{7}, 7)
	wantOf(t, []int{1, 2, 3}, 1, 2, 3)
	wantOf(t, []int{3, 2, 1}, 1, 2, 3)
	wantOf(t, []int{5, 5, 1}, 1, 5)
	wantOf(t, []int{5, 1, 5}, 1, 5)
	wantOf(t, []int{4, 4, 4, 4}, 4)
	wantOf(t, []int{0, 0}, 0)
	wantOf(t, []int{2, -2, 0, -1, 1}, -2, -1, 0, 1, 2)
	wantOf(t, []int{greatest, 0, least, greatest, least}, least, 0, greatest)
	wantOf(t, []int{1 << 32, 0, 1<<32 + 1, 1, -1 << 32}, -1<<32, 0, 1, 1<<32, 1<<32+1)
	if l := Of(); len(l) != 0 {
		t.Errorf("Of(): %d", l)
	}
	if l := Of(9, 2, 9, 4); !slices.Equal(l, []int{2, 4, 9}) {
		t.Errorf("Of(9, 2, 9, 4): %d", l)
	}
}

func TestP1701Right(t *testing.T) {
	for _, l := range [][]int{nil, {}, {0}, {-5}, {least}, {greatest}, {1, 2}, {-1, 0}, {1, 2, 3, 9}, {least, greatest}, {least, least + 1, 0, greatest - 1, greatest}, {0, 1 << 32}, {-1 << 32, 0, 1}} {
		wantRight(t, l, true)
	}
	for _, l := range [][]int{{0, 0}, {1, 1}, {2, 1}, {3, 1, 3}, {1, 2, 2}, {1, 1, 2}, {1, 3, 2}, {2, 1, 3}, {1, 2, 3, 3}, {1, 2, 3, 0}, {1, 2, 1}, {0, -1}, {greatest, least}, {least, least}, {greatest, greatest}, {1 << 32, 0}, {0, -1 << 32}, {1, 1 << 32, 1<<32 + 1, 1}} {
		wantRight(t, l, false)
	}
}

func TestP1701Has(t *testing.T) {
	wantHas(t, nil, 0, false)
	wantHas(t, []int{}, 0, false)
	wantHas(t, []int{0}, 0, true)
	l := []int{3, 1, 3, -7, least, greatest, 1 << 32}
	for _, n := range []int{3, 1, -7, least, greatest, 1 << 32} {
		wantHas(t, l, n, true)
	}
	for _, n := range []int{0, 2, 4, 7, -1, -3, -6, -8, least + 1, greatest - 1, 1<<32 + 1, 1<<32 + 3, 1 << 33, -1 << 32} {
		wantHas(t, l, n, false)
	}
	// Such as are looked for by halves are not found in a list that falls.
	falls := []int{9, 8, 7, 6, 5, 4, 3, 2, 1}
	for n := range 11 {
		wantHas(t, falls, n, n >= 1 && n <= 9)
	}
}

func TestP1702Or(t *testing.T) {
	wantOr(t, nil, nil)
	wantOr(t, []int{}, nil)
	wantOr(t, []int{1}, nil, 1)
	wantOr(t, nil, []int{1}, 1)
	wantOr(t, []int{3, 1}, []int{2, 3}, 1, 2, 3)
	wantOr(t, []int{1, 2}, []int{3, 4}, 1, 2, 3, 4)
	wantOr(t, []int{3, 4}, []int{1, 2}, 1, 2, 3, 4)
	wantOr(t, []int{1, 3, 5}, []int{2, 3, 4}, 1, 2, 3, 4, 5)
	wantOr(t, []int{2, 2}, []int{2, 2}, 2)
	wantOr(t, []int{3, 1, 3}, []int{1, 0, 1}, 0, 1, 3)
	wantOr(t, []int{greatest}, []int{least, 0}, least, 0, greatest)
	wantOr(t, []int{1 << 32}, []int{0}, 0, 1<<32)
}

func TestP1702And(t *testing.T) {
	wantAnd(t, nil, nil)
	wantAnd(t, []int{1}, nil)
	wantAnd(t, nil, []int{1})
	wantAnd(t, []int{3, 1}, []int{2, 3}, 3)
	wantAnd(t, []int{1, 2}, []int{3, 4})
	wantAnd(t, []int{5, 4, 3}, []int{3, 4, 5}, 3, 4, 5)
	wantAnd(t, []int{2, 2}, []int{2}, 2)
	wantAnd(t, []int{2}, []int{2, 2}, 2)
	wantAnd(t, []int{3, 1, 3, 1}, []int{1, 3, 1, 3}, 1, 3)
	wantAnd(t, []int{greatest, 0, least}, []int{least, greatest}, least, greatest)
	wantAnd(t, []int{1 << 32}, []int{0})
	wantAnd(t, []int{0}, []int{0}, 0)
}

func TestP1702Less(t *testing.T) {
	wantLess(t, nil, nil)
	wantLess(t, []int{1}, nil, 1)
	wantLess(t, nil, []int{1})
	wantLess(t, []int{3, 1}, []int{2, 3}, 1)
	wantLess(t, []int{2, 3}, []int{3, 1}, 2)
	wantLess(t, []int{4, 2, 4, 1}, nil, 1, 2, 4)
	wantLess(t, []int{5, 4, 3}, []int{3, 4, 5})
	wantLess(t, []int{9, 5, 9, 1, 1}, []int{5, 5}, 1, 9)
	wantLess(t, []int{greatest, 0, least}, []int{0}, least, greatest)
	wantLess(t, []int{1 << 32, 1}, []int{0, 1<<32 + 1}, 1, 1<<32)
	wantLess(t, []int{0}, []int{0})
}

func TestP1702Within(t *testing.T) {
	for _, p := range [][2][]int{{nil, nil}, {{}, nil}, {nil, {1}}, {{1}, {1}}, {{1, 1, 1}, {1}}, {{1}, {1, 1}}, {{3, 1}, {2, 3, 1}}, {{2, 3, 2}, {3, 2}}, {{least, greatest}, {greatest, 0, least}}} {
		wantWithin(t, p[0], p[1], true)
	}
	for _, p := range [][2][]int{{{1}, nil}, {{0}, {}}, {{1}, {2}}, {{2, 3}, {3, 1, 3}}, {{1, 2, 3}, {1, 2}}, {{0, 1, 2}, {1, 2}}, {{1, 2, 3}, {1, 3}}, {{1 << 32}, {0}}, {{least}, {greatest, least + 1}}, {{greatest}, {least, greatest - 1}}} {
		wantWithin(t, p[0], p[1], false)
	}
}

func TestP1702Above(t *testing.T) {
	wantAbove(t, nil, 0, 0, false)
	wantAbove(t, []int{}, least, 0, false)
	l := []int{9, 3, 7, 3}
	for _, c := range [][2]int{{least, 3}, {0, 3}, {2, 3}, {3, 7}, {4, 7}, {6, 7}, {7, 9}, {8, 9}} {
		wantAbove(t, l, c[0], c[1], true)
	}
	for _, n := range []int{9, 10, 1 << 32, greatest} {
		wantAbove(t, l, n, 0, false)
	}
	wantAbove(t, []int{3, 1, 3}, 1, 3, true)
	wantAbove(t, []int{3, 1, 3}, 3, 0, false)
	wantAbove(t, []int{-2, 0, -5}, -6, -5, true)
	wantAbove(t, []int{-2, 0, -5}, -3, -2, true)
	wantAbove(t, []int{-2, 0, -5}, -1, 0, true)
	wantAbove(t, []int{-2, -5}, -2, 0, false)
	wantAbove(t, []int{least}, least, 0, false)
	wantAbove(t, []int{least, greatest}, least, greatest, true)
	wantAbove(t, []int{greatest, least}, greatest-1, greatest, true)
	wantAbove(t, []int{greatest}, greatest, 0, false)
	wantAbove(t, []int{1 << 32}, 1, 1<<32, true)
	wantAbove(t, []int{0, 1}, 1<<32, 0, false)
}

// All lists of up to four numbers, and all pairs of lists of up to three.
func TestP1702AllLittleLists(t *testing.T) {
	for _, l := range listsOf([]int{-1, 0, 1, 2}, 4) {
		wantListAlike(t, l, []int{-2, -1, 0, 1, 2, 3})
	}
	for _, l := range listsOf(edges(), 2) {
		wantListAlike(t, l, edges())
	}
	little := listsOf([]int{0, 1, 2}, 3)
	little = append(little, listsOf([]int{-1, 0, 3, 1 << 32}, 2)...)
	for _, a := range little {
		for _, b := range little {
			wantPairAlike(t, a, b)
		}
	}
	for _, a := range listsOf([]int{least, -1 << 32, 0, 1 << 32, greatest}, 2) {
		for _, b := range listsOf(edges(), 2) {
			wantPairAlike(t, a, b)
		}
	}
}

func TestP1702MixedLists(t *testing.T) {
	for k := range uint32(400) {
		a := mixed(2*k, int(k%53), 5+int(k%29))
		b := mixed(2*k+1, int(k*7%61), 5+int(k%29))
		wantListAlike(t, a, append(edges(), b...))
		wantPairAlike(t, a, b)
		wantPairAlike(t, b, a)
		wantPairAlike(t, a, Of(b...))
		wantPairAlike(t, Of(a...), b)
	}
}

// wantParts asks that what is in a alone, in both and in b alone is in either, once.
func wantParts(t *testing.T, a, b []int) {
	t.Helper()
	parts := slices.Concat(Less(a, b), And(a, b), Less(b, a))
	slices.Sort(parts)
	if got := Or(a, b); !slices.Equal(got, parts) {
		t.Fatalf("Or(%d, %d): %d, but in parts %d", a, b, got, parts)
	}
	for _, l := range [][]int{Or(a, b), And(a, b), Less(a, b), Of(a...)} {
		wantRight(t, l, true)
	}
	if !slices.Equal(Or(a, b), Or(b, a)) || !slices.Equal(And(a, b), And(b, a)) {
		t.Fatalf("of %d and %d something else is told than the other way round", a, b)
	}
	wantWithin(t, And(a, b), a, true)
	wantWithin(t, a, Or(a, b), true)
	wantWithin(t, Less(a, b), a, true)
	wantAnd(t, Less(a, b), b)
}

// wantOrdered asks that each set is within itself, that two are the same if each is within the other one, and that what is within one within a third one is within that.
func wantOrdered(t *testing.T, a, b, c []int) {
	t.Helper()
	wantWithin(t, a, a, true)
	ab, ba, bc := Within(a, b), Within(b, a), Within(b, c)
	if (ab && ba) != slices.Equal(Of(a...), Of(b...)) {
		t.Fatalf("%d within %d: %t, and back: %t", a, b, ab, ba)
	}
	if ab && bc && !Within(a, c) {
		t.Fatalf("%d is within %d, and that within %d, but the first one is not within the last one", a, b, c)
	}
	if ab != slices.Equal(Or(a, b), Of(b...)) || ab != slices.Equal(And(a, b), Of(a...)) || ab != (len(Less(a, b)) == 0) {
		t.Fatalf("%d within %d: %t, other than by Or, And and Less", a, b, ab)
	}
}

// climb asks Above over and over, from the least number on, which Above itself can't tell.
func climb(l []int) []int {
	var told []int
	if Has(l, least) {
		told = append(told, least)
	}
	n, ok := Above(l, least)
	for ok && len(told) <= len(l) {
		told = append(told, n)
		n, ok = Above(l, n)
	}
	return told
}

func wantClimb(t *testing.T, l []int) {
	t.Helper()
	if got := climb(l); !slices.Equal(got, Of(l...)) || !Right(got) {
		t.Fatalf("Above of %d, over and over: %d", l, got)
	}
}

func TestP1703LittleLists(t *testing.T) {
	sets := listsOf([]int{0, 1, 2}, 3)
	for _, a := range sets {
		wantClimb(t, a)
		for _, b := range sets {
			wantParts(t, a, b)
			for _, c := range sets[:13] {
				wantOrdered(t, a, b, c)
				wantOrdered(t, c, a, b)
			}
		}
	}
	for _, l := range listsOf(edges(), 3) {
		wantClimb(t, l)
	}
}

func TestP1703MixedLists(t *testing.T) {
	for k := range uint32(300) {
		a, b, c := mixed(3*k, int(k%31), 9), mixed(3*k+1, int(k%37), 9), mixed(3*k+2, int(k%41), 9)
		wantClimb(t, a)
		wantParts(t, a, b)
		wantOrdered(t, a, b, c)
		wantOrdered(t, And(a, b), a, Or(a, c))
		wantOrdered(t, a, Of(a...), b)
	}
}

// Lists so long that one which is looked through for each number of another one takes too long.
func TestP1703LongLists(t *testing.T) {
	even, threes := make([]int, many), make([]int, many)
	for i := range many {
		at := i * 7 % many
		even[i], threes[i] = 2*at, 3*at
	}
	either, both := 0, 0
	for n := range 3 * many {
		inEven, inThrees := n%2 == 0 && n < 2*many, n%3 == 0
		if inEven || inThrees {
			either++
		}
		if inEven && inThrees {
			both++
		}
	}
	if l := Or(even, threes); len(l) != either || !Right(l) {
		t.Errorf("Or of long lists has %d, not %d", len(l), either)
	}
	if l := And(even, threes); len(l) != both || !Right(l) {
		t.Errorf("And of long lists has %d, not %d", len(l), both)
	}
	if l := Less(even, threes); len(l) != many-both || !Right(l) || l[0] != 2 {
		t.Errorf("Less of long lists has %d, not %d", len(l), many-both)
	}
	back := slices.Clone(even)
	slices.Reverse(back)
	wantWithin(t, back, even, true)
	if Within(even, threes) || Within(append(back, 1), even) {
		t.Error("a long list is within one that has not all of it")
	}
	if l := Of(slices.Concat(back, even)...); len(l) != many || !Right(l) || l[many-1] != 2*many-2 {
		t.Errorf("Of of a long list has %d, not %d", len(l), many)
	}
	if n, ok := Above(back, 2*many-3); n != 2*many-2 || !ok {
		t.Errorf("Above of a long list: %d %t", n, ok)
	}
}

// withRoom is a list behind which there is room for more, with numbers in it that must stay.
func withRoom(l ...int) []int {
	all := append(slices.Clone(l), 901, -902, 903)
	return all[:len(l)]
}

func TestArgumentsStay(t *testing.T) {
	for _, l := range [][]int{{3, 1, 3}, {1, 2, 3}, {2, 2}, {5}, {}} {
		for _, m := range [][]int{{2, 3}, {3, 2, 2, 9}, {1}, {}} {
			a, b := withRoom(l...), withRoom(m...)
			Of(a...)
			Right(a)
			Has(a, 9)
			Or(a, b)
			And(a, b)
			Less(a, b)
			Within(a, b)
			Above(a, 1)
			if !slices.Equal(a[:len(l)+3], withRoom(l...)[:len(l)+3]) || !slices.Equal(b[:len(m)+3], withRoom(m...)[:len(m)+3]) {
				t.Fatalf("%d and %d were changed, or the room behind them: %d, %d", l, m, a[:len(l)+3], b[:len(m)+3])
			}
		}
	}
}

func TestAnswersAreNew(t *testing.T) {
	a, b := withRoom(1, 2, 3), withRoom(4, 5)
	for _, answer := range [][]int{Of(a...), Or(a, nil), Or(nil, a), Or(a, a), Or(a, b), And(a, a), Less(a, nil), Less(a, b)} {
		for i := range answer {
			answer[i] = 77
		}
		for i := range cap(answer) - len(answer) {
			answer[:cap(answer)][len(answer)+i] = 78
		}
	}
	if !slices.Equal(a[:6], []int{1, 2, 3, 901, -902, 903}) || !slices.Equal(b[:5], []int{4, 5, 901, -902, 903}) {
		t.Errorf("an answer shares numbers with what was handed in: %d, %d", a[:6], b[:5])
	}
}

func TestExamplesOfTheChapter(t *testing.T) {
	wantOr(t, []int{3, 1}, []int{2, 3}, 1, 2, 3)
}

// listsOfBytes are two lists of near numbers, and of edges.
func listsOfBytes(p []byte) ([]int, []int) {
	var lists [2][]int
	for _, c := range p {
		n := int(c>>1&63) - 32
		if c>>1 >= 64 {
			n = edges()[int(c>>1&63)%len(edges())]
		}
		lists[c&1] = append(lists[c&1], n)
	}
	return lists[0], lists[1]
}

func FuzzLists(f *testing.F) {
	f.Add([]byte(""))
	f.Add([]byte("three, one and two, three"))
	f.Add([]byte{0, 255, 128, 127, 1, 2, 3})
	f.Fuzz(func(t *testing.T, p []byte) {
		a, b := listsOfBytes(p)
		wantListAlike(t, a, append(edges(), b...))
		wantPairAlike(t, a, b)
		wantParts(t, a, b)
		wantOrdered(t, a, b, Or(a, b))
		wantClimb(t, a)
	})
}
