package sat

import (
	"math"
	"math/big"
	"slices"
	"testing"
)

const (
	least    = math.MinInt
	greatest = math.MaxInt
	root     = 3037000499 // the greatest number whose square is an int of 64 bits
)

// edges are numbers where a sum or a product may wrap round, or a sign tell.
func edges() []int {
	return []int{
		least, least + 1, least / 2, -root, -7, -2, -1, 0, 1, 2, 3, 7, 10, 1 << 31,
		root, root + 1, greatest / 3, greatest/2 - 1, greatest / 2, greatest/2 + 1, greatest - 1, greatest,
	}
}

// someEdges are few enough to be tried four at a time.
func someEdges() []int {
	return []int{least, -1, 0, 1, 2, 3, 5, root, root + 1, greatest / 2, greatest/2 + 1, greatest - 1, greatest}
}

// listsOf are all lists of so many of these numbers, made anew for each call.
func listsOf(numbers []int, long int) [][]int {
	all := [][]int{nil}
	for range long {
		var longer [][]int
		for _, l := range all {
			for _, n := range numbers {
				longer = append(longer, append(slices.Clone(l), n))
			}
		}
		all = longer
	}
	return all
}

// counted is a number as P201 has it count, of a kind that never wraps round.
func counted(n int) *big.Int {
	if n < 0 {
		return new(big.Int)
	}
	return big.NewInt(int64(n))
}

func stopped(most int, n *big.Int) int {
	if top := counted(most); n.Cmp(top) > 0 {
		n = top
	}
	return int(n.Int64())
}

// reckonedSum and reckonedProduct are P202 by its words: reckoned without an end, and only then held against the greatest number.
func reckonedSum(most int, l ...int) int {
	sum := big.NewInt(0)
	for _, n := range l {
		sum.Add(sum, counted(n))
	}
	return stopped(most, sum)
}

func reckonedProduct(most int, l ...int) int {
	product := big.NewInt(1)
	for _, n := range l {
		product.Mul(product, counted(n))
	}
	return stopped(most, product)
}

// A folding is Add or Mul, with what it answers by the words of P202.
type folding struct {
	name     string
	do       func(most int, l ...int) int
	reckoned func(most int, l ...int) int
}

func foldings() []folding {
	return []folding{{"Add", Add, reckonedSum}, {"Mul", Mul, reckonedProduct}}
}

func wantAdd(t *testing.T, want, most int, l ...int) {
	t.Helper()
	if got := Add(most, l...); got != want {
		t.Errorf("Add(%d, %d): %d, not %d", most, l, got, want)
	}
}

func wantMul(t *testing.T, want, most int, l ...int) {
	t.Helper()
	if got := Mul(most, l...); got != want {
		t.Errorf("Mul(%d, %d): %d, not %d", most, l, got, want)
	}
}

func TestP201Clip(t *testing.T) {
	for _, c := range []struct{ n, least, most, want int }{
		{3, 1, 5, 3}, {1, 1, 5, 1}, {5, 1, 5, 5}, {0, 1, 5, 1}, {6, 1, 5, 5}, {9, 1, 5, 5}, {4, 4, 4, 4}, {3, 4, 4, 4}, {5, 4, 4, 4},
		// Below 0 a number is what it is.
		{-3, -5, -1, -3}, {-7, -5, -1, -5}, {0, -5, -1, -1}, {3, -5, -1, -1}, {-3, 0, 5, 0}, {-3, -5, 5, -3}, {-9, -5, 5, -5},
		// The least number comes ahead of the greatest one, where they cross.
		{9, 7, 5, 5}, {8, 7, 5, 5}, {7, 7, 5, 5}, {6, 7, 5, 7}, {5, 7, 5, 7}, {3, 7, 5, 7}, {-1, 0, -5, 0}, {0, 0, -5, -5},
		{least, least, greatest, least}, {greatest, least, greatest, greatest}, {0, least, greatest, 0},
		{least, least + 1, greatest, least + 1}, {greatest, least, greatest - 1, greatest - 1},
		{0, greatest, least, greatest}, {greatest, greatest, least, least}, {least, least, least, least}, {greatest, least, least, least},
	} {
		if got := Clip(c.n, c.least, c.most); got != c.want {
			t.Errorf("Clip(%d, %d, %d): %d, not %d", c.n, c.least, c.most, got, c.want)
		}
	}
}

func TestP201ClipOfAll(t *testing.T) {
	for _, l := range listsOf(edges(), 3) {
		n, low, high := l[0], l[1], l[2]
		want := n
		switch {
		case n < low:
			want = low
		case n > high:
			want = high
		}
		if got := Clip(n, low, high); got != want {
			t.Errorf("Clip(%d, %d, %d): %d, not %d", n, low, high, got, want)
		}
	}
}

func TestP201Less(t *testing.T) {
	for _, c := range []struct{ a, b, want int }{
		{5, 3, 2}, {5, 5, 0}, {5, 4, 1}, {5, 6, 0}, {3, 5, 0}, {5, 0, 5}, {0, 5, 0}, {0, 0, 0},
		{5, -3, 5}, {-3, 5, 0}, {-3, -5, 0}, {-5, -3, 0}, {0, -1, 0}, {-1, 0, 0},
		{greatest, 0, greatest}, {greatest, 1, greatest - 1}, {greatest, greatest, 0}, {greatest, greatest - 1, 1}, {0, greatest, 0},
		{greatest, least, greatest}, {greatest, -1, greatest}, {0, least, 0}, {least, greatest, 0}, {least, 1, 0}, {least, least, 0}, {5, least, 5},
	} {
		if got := Less(c.a, c.b); got != c.want {
			t.Errorf("Less(%d, %d): %d, not %d", c.a, c.b, got, c.want)
		}
	}
	for _, l := range listsOf(edges(), 2) {
		d := new(big.Int).Sub(counted(l[0]), counted(l[1]))
		if got, want := Less(l[0], l[1]), int(max(d.Int64(), 0)); got != want {
			t.Errorf("Less(%d, %d): %d, not %d", l[0], l[1], got, want)
		}
	}
}

func TestP201Over(t *testing.T) {
	for _, c := range []struct{ a, b, want int }{
		{0, 1, 0}, {1, 1, 1}, {7, 1, 7}, {6, 2, 3}, {7, 2, 4}, {8, 2, 4}, {9, 2, 5}, {1, 2, 1}, {2, 3, 1}, {3, 3, 1}, {4, 3, 2}, {0, 9, 0},
		{8, 0, 8}, {8, -1, 8}, {8, -2, 8}, {8, least, 8}, {0, 0, 0}, {-1, 2, 0}, {-7, 2, 0}, {-7, -2, 0}, {-7, 0, 0}, {least, least, 0}, {least, -1, 0},
		{greatest, 1, greatest}, {greatest, 0, greatest}, {greatest, least, greatest}, {greatest, 2, greatest/2 + 1}, {greatest - 1, 2, greatest / 2},
		{greatest, greatest, 1}, {greatest - 1, greatest, 1}, {greatest, greatest - 1, 2}, {1, greatest, 1}, {0, greatest, 0},
	} {
		if got := Over(c.a, c.b); got != c.want {
			t.Errorf("Over(%d, %d): %d, not %d", c.a, c.b, got, c.want)
		}
	}
}

func TestP202Add(t *testing.T) {
	wantAdd(t, 0, 9)
	wantAdd(t, 0, 9, 0)
	wantAdd(t, 4, 9, 4)
	wantAdd(t, 8, 9, 4, 4)
	wantAdd(t, 9, 9, 4, 5)
	wantAdd(t, 9, 9, 4, 6)
	wantAdd(t, 9, 9, 10)
	wantAdd(t, 6, 9, 1, 2, 3)
	wantAdd(t, 9, 9, 4, 4, 4, 0)
	// What is below 0 counts as 0: it takes nothing away, ahead of the stop or behind it.
	wantAdd(t, 60, 100, 60, -50)
	wantAdd(t, 60, 100, -50, 60)
	wantAdd(t, 100, 100, 60, 60, -50)
	wantAdd(t, 0, 9, -1, least)
	// So does the greatest number.
	wantAdd(t, 0, -1, 5)
	wantAdd(t, 0, -1, -5)
	wantAdd(t, 0, least)
	wantAdd(t, 0, least, greatest)
	wantAdd(t, 0, 0, 5)
	wantAdd(t, 0, 0)
	wantAdd(t, greatest, greatest, greatest)
	wantAdd(t, greatest, greatest, greatest, 1)
	wantAdd(t, greatest, greatest, greatest, greatest, 2)
	wantAdd(t, greatest, greatest, greatest-1, 1)
	wantAdd(t, greatest-1, greatest, greatest-2, 1)
	wantAdd(t, greatest, greatest, greatest/2+1, greatest/2+1)
	wantAdd(t, 7, 7, greatest, greatest)
}

func TestP202Mul(t *testing.T) {
	wantMul(t, 1, 9)
	wantMul(t, 0, 9, 0)
	wantMul(t, 4, 9, 4)
	wantMul(t, 8, 9, 2, 4)
	wantMul(t, 9, 9, 3, 3)
	wantMul(t, 9, 9, 2, 5)
	wantMul(t, 9, 9, 10)
	wantMul(t, 42, 1000, 6, 7)
	wantMul(t, 40, 40, 6, 7)
	wantMul(t, 24, 100, 1, 2, 3, 4)
	// A 0 makes it 0, though it stopped ahead of that.
	wantMul(t, 0, 5, greatest, greatest, 0)
	wantMul(t, 0, 5, 0, greatest, greatest)
	wantMul(t, 0, 9, 4, 4, 0, 4)
	// What is below 0 counts as 0, so two of them make nothing great.
	wantMul(t, 0, 9, -2)
	wantMul(t, 0, 9, -2, -3)
	wantMul(t, 0, 9, 4, 4, -1)
	wantMul(t, 0, greatest, least, least)
	wantMul(t, 0, greatest, least, -1)
	// So does the greatest number, and that stops the product of none as well.
	wantMul(t, 0, 0)
	wantMul(t, 1, 1)
	wantMul(t, 0, -1)
	wantMul(t, 0, least)
	wantMul(t, 0, -5, 2, 3)
	wantMul(t, 0, 0, 2, 3)
	wantMul(t, greatest, greatest, greatest)
	wantMul(t, greatest, greatest, greatest, 1)
	wantMul(t, greatest, greatest, greatest, 2)
	wantMul(t, greatest-1, greatest, greatest/2, 2)
	wantMul(t, greatest, greatest, greatest/2+1, 2)
	wantMul(t, root*root, greatest, root, root)
	wantMul(t, greatest, greatest, root+1, root+1)
	// These wrap round to 0, and to a small number.
	wantMul(t, greatest, greatest, 1<<32, 1<<32)
	wantMul(t, 100, 100, 1<<62, 4)
	wantMul(t, 100, 100, 1<<62+1, 4)
	wantMul(t, greatest, greatest, 3, greatest/3*2)
}

// TestP202AsReckoned holds both against numbers that have no end.
func TestP202AsReckoned(t *testing.T) {
	for _, f := range foldings() {
		for _, l := range listsOf(edges(), 3) {
			if got, want := f.do(l[0], l[1:]...), f.reckoned(l[0], l[1:]...); got != want {
				t.Errorf("%s(%d, %d): %d, not %d", f.name, l[0], l[1:], got, want)
			}
		}
		for _, l := range listsOf(someEdges(), 4) {
			if got, want := f.do(l[0], l[1:]...), f.reckoned(l[0], l[1:]...); got != want {
				t.Errorf("%s(%d, %d): %d, not %d", f.name, l[0], l[1:], got, want)
			}
		}
	}
}

func TestP202ManyNumbers(t *testing.T) {
	ones := slices.Repeat([]int{1}, 100000)
	wantAdd(t, 100000, greatest, ones...)
	wantAdd(t, 99999, 99999, ones...)
	wantMul(t, 1, greatest, ones...)
	wantMul(t, greatest, greatest, slices.Repeat([]int{2}, 100000)...)
	wantMul(t, 1<<62, greatest, slices.Repeat([]int{2}, 62)...)
	wantMul(t, greatest, greatest, slices.Repeat([]int{2}, 63)...)
	wantAdd(t, greatest, greatest, slices.Repeat([]int{greatest}, 100000)...)
	wantMul(t, 0, greatest, append(slices.Repeat([]int{greatest}, 100000), 0)...)
}

func TestP202LeavesItsNumbers(t *testing.T) {
	for _, f := range foldings() {
		l := []int{7, -3, greatest, 0, -9}
		f.do(5, l[:4]...)
		if !slices.Equal(l, []int{7, -3, greatest, 0, -9}) {
			t.Errorf("%s changed what was handed in: %d", f.name, l)
		}
	}
}

// TestP203WhateverOrderAndWay: three numbers, in each order, and put together two at first.
func TestP203WhateverOrderAndWay(t *testing.T) {
	for _, f := range foldings() {
		for _, l := range listsOf(someEdges(), 4) {
			most, a, b, c := l[0], l[1], l[2], l[3]
			want := f.do(most, a, b, c)
			for _, got := range []int{
				f.do(most, a, c, b), f.do(most, b, a, c), f.do(most, b, c, a), f.do(most, c, a, b), f.do(most, c, b, a),
				f.do(most, f.do(most, a, b), c), f.do(most, a, f.do(most, b, c)), f.do(most, f.do(most, a, c), b),
				f.do(most, f.do(most, a), f.do(most, b), f.do(most, c)), f.do(most, f.do(most), a, b, c), f.do(most, f.do(most, a, b, c)),
			} {
				if got != want {
					t.Fatalf("%s(%d, %d): %d, in another way %d", f.name, most, l[1:], want, got)
				}
			}
		}
	}
}

func TestP203AProductGoesThroughASum(t *testing.T) {
	for _, l := range listsOf(someEdges(), 4) {
		most, a, b, c := l[0], l[1], l[2], l[3]
		if whole, parts := Mul(most, a, Add(most, b, c)), Add(most, Mul(most, a, b), Mul(most, a, c)); whole != parts {
			t.Fatalf("up to %d, %d times the sum of %d and %d: %d, and by parts %d", most, a, b, c, whole, parts)
		}
	}
}

// TestP203WhatGrows lets the greatest number grow, and each number, and the list of a sum.
func TestP203WhatGrows(t *testing.T) {
	for _, f := range foldings() {
		for _, l := range listsOf(someEdges(), 4) {
			was := f.do(l[0], l[1:]...)
			for i := range l {
				for _, n := range someEdges() {
					if n < l[i] {
						continue
					}
					more := slices.Clone(l)
					more[i] = n
					if is := f.do(more[0], more[1:]...); is < was {
						t.Fatalf("%s(%d, %d): %d, but of %d %d %d", f.name, l[0], l[1:], was, more[0], more[1:], is)
					}
				}
			}
		}
	}
	for _, l := range listsOf(someEdges(), 4) {
		if was, is := Add(l[0], l[1:3]...), Add(l[0], l[1:]...); is < was {
			t.Fatalf("Add(%d, %d): %d, but of one more number %d", l[0], l[1:], was, is)
		}
	}
}

func TestP203OverTimesB(t *testing.T) {
	numbers := edges()
	for n := range 40 {
		numbers = append(numbers, n, greatest-n)
	}
	for _, l := range listsOf(numbers, 2) {
		a, b := counted(l[0]), counted(max(l[1], 1))
		n := big.NewInt(int64(Over(l[0], l[1])))
		one := new(big.Int).Sub(n, big.NewInt(1))
		if n.Sign() < 0 || n.Mul(n, b).Cmp(a) < 0 || one.Mul(one, b).Cmp(a) >= 0 {
			t.Errorf("Over(%d, %d): %d", l[0], l[1], Over(l[0], l[1]))
		}
	}
}

func TestExamplesOfTheChapter(t *testing.T) {
	wantAdd(t, 100, 100, 60, 50)
	if got := Over(7, 2); got != 4 {
		t.Errorf("Over(7, 2): %d, not 4", got)
	}
}

func FuzzNumbers(f *testing.F) {
	f.Add(9, 2, 3, 4)
	f.Add(greatest, greatest, 2, 0)
	f.Add(least, least, -1, greatest)
	f.Fuzz(func(t *testing.T, most, a, b, c int) {
		for _, g := range foldings() {
			if got, want := g.do(most, a, b, c), g.reckoned(most, a, b, c); got != want {
				t.Errorf("%s(%d, %d, %d, %d): %d, not %d", g.name, most, a, b, c, got, want)
			}
		}
	})
}
