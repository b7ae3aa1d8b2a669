package gauss

import (
	"fmt"
	"math"
	"strconv"
	"strings"
	"testing"

	"tallyman/api"
)

const (
	least    = math.MinInt
	greatest = math.MaxInt
	far      = 1048576
)

func at(x, y int) api.Point {
	return api.Point{X: x, Y: y}
}

// edges are numbers about Far, and such as a float, or an int of fewer bits, does not hold.
func edges() []int {
	return []int{
		least, least + 1, -1<<53 - 1, -1<<32 - 5, -1 << 31, -far - 2, -far - 1, -far, -far + 1, -1001, -4, -1,
		0, 1, 2, 7, 999, far - 1, far, far + 1, far + 2, 1<<31 + 3, 1 << 32, 1<<53 + 1, greatest - 1, greatest,
	}
}

// pointsOf are all points whose parts are of these numbers.
func pointsOf(numbers []int) []api.Point {
	var l []api.Point
	for _, x := range numbers {
		for _, y := range numbers {
			l = append(l, at(x, y))
		}
	}
	return l
}

// fixed is a part as the chapter's words have it, told by cases.
func fixed(n int) int {
	switch {
	case n < -far:
		return -far
	case n > far:
		return far
	}
	return n
}

func fixedPoint(p api.Point) api.Point {
	return at(fixed(p.X), fixed(p.Y))
}

func withoutSign(n int) int {
	if n < 0 {
		return -n
	}
	return n
}

func wantPoint(t *testing.T, what string, got, want api.Point) {
	t.Helper()
	if got != want {
		t.Errorf("%s: %v, not %v", what, got, want)
	}
}

func wantParse(t *testing.T, s string, want api.Point, ok bool) {
	t.Helper()
	if p, yes := Parse(s); p != want || yes != ok {
		t.Errorf("Parse(%q): %v %v, not %v %v", s, p, yes, want, ok)
	}
}

func TestP301Fix(t *testing.T) {
	for _, c := range []struct{ p, want api.Point }{
		{at(0, 0), at(0, 0)}, {at(3, -4), at(3, -4)}, {at(-3, 4), at(-3, 4)},
		{at(1048576, -1048576), at(1048576, -1048576)}, {at(-1048576, 1048576), at(-1048576, 1048576)},
		{at(1048575, -1048575), at(1048575, -1048575)},
		{at(1048577, 5), at(1048576, 5)}, {at(5, 1048577), at(5, 1048576)},
		{at(-1048577, 5), at(-1048576, 5)}, {at(5, -1048577), at(5, -1048576)},
		{at(greatest, least), at(1048576, -1048576)}, {at(least, greatest), at(-1048576, 1048576)},
		{at(1<<32, 1<<32+7), at(1048576, 1048576)}, {at(-1<<32, -1<<32-7), at(-1048576, -1048576)},
	} {
		wantPoint(t, fmt.Sprint("Fix", c.p), Fix(c.p), c.want)
	}
	for _, p := range pointsOf(edges()) {
		wantPoint(t, fmt.Sprint("Fix", p), Fix(p), fixedPoint(p))
	}
}

func TestP301AddSubMulConj(t *testing.T) {
	p, q := at(3, 4), at(-5, 2)
	wantPoint(t, "Add", Add(p, q), at(-2, 6))
	wantPoint(t, "Sub", Sub(p, q), at(8, 2))
	wantPoint(t, "Sub, the other way round", Sub(q, p), at(-8, -2))
	wantPoint(t, "Mul", Mul(p, q), at(-23, -14))
	wantPoint(t, "Mul of itself", Mul(p, p), at(-7, 24))
	wantPoint(t, "Mul with (0, 0)", Mul(p, at(0, 0)), at(0, 0))
	wantPoint(t, "Mul with (1, 0)", Mul(p, at(1, 0)), p)
	wantPoint(t, "Mul with (-1, 0)", Mul(p, at(-1, 0)), at(-3, -4))
	wantPoint(t, "Mul with (0, -1)", Mul(p, at(0, -1)), at(4, -3))
	wantPoint(t, "Conj", Conj(p), at(3, -4))
	wantPoint(t, "Conj of Conj", Conj(Conj(q)), q)
	wantPoint(t, "Conj on the line", Conj(at(7, 0)), at(7, 0))
}

// TestP301WhatIsToldIsNotFixed: what comes in is fixed, each by itself, and what comes of it is not.
func TestP301WhatIsToldIsNotFixed(t *testing.T) {
	corner := at(1048576, 1048576)
	for _, p := range []api.Point{corner, at(1048577, 1048577), at(greatest, greatest), at(1<<53+1, 1<<32)} {
		for _, q := range []api.Point{corner, at(1048577, 1048577), at(greatest, greatest)} {
			wantPoint(t, "Add", Add(p, q), at(2097152, 2097152))
			wantPoint(t, "Sub", Sub(p, q), at(0, 0))
			wantPoint(t, "Mul", Mul(p, q), at(0, 2199023255552))
		}
		wantPoint(t, "Sub below", Sub(at(least, least), p), at(-2097152, -2097152))
		wantPoint(t, "Add of one", Add(p, at(1, -1)), at(1048577, 1048575))
		wantPoint(t, "Conj", Conj(p), at(1048576, -1048576))
	}
	wantPoint(t, "Conj of the least", Conj(at(least, least)), at(-1048576, 1048576))
	// A float of fewer bits would make this one round.
	wantPoint(t, "Mul", Mul(at(1048575, 1048573), at(1048575, -1048571)), at(2199012769808, 2097150))
}

// TestP301AsReckoned holds all four against whole numbers: with parts up to Far these stay below 2^42.
func TestP301AsReckoned(t *testing.T) {
	l := pointsOf(edges())
	for _, p := range l {
		a, b := fixed(p.X), fixed(p.Y)
		wantPoint(t, fmt.Sprint("Conj", p), Conj(p), at(a, -b))
		for _, q := range l {
			c, d := fixed(q.X), fixed(q.Y)
			if got, want := Add(p, q), at(a+c, b+d); got != want {
				t.Fatalf("Add(%v, %v): %v, not %v", p, q, got, want)
			}
			if got, want := Sub(p, q), at(a-c, b-d); got != want {
				t.Fatalf("Sub(%v, %v): %v, not %v", p, q, got, want)
			}
			if got, want := Mul(p, q), at(a*c-b*d, a*d+b*c); got != want {
				t.Fatalf("Mul(%v, %v): %v, not %v", p, q, got, want)
			}
		}
	}
}

func TestP302Turn(t *testing.T) {
	p := at(3, 4)
	quarters := []api.Point{at(3, 4), at(-4, 3), at(-3, -4), at(4, -3)}
	for n := -9; n <= 9; n++ {
		wantPoint(t, fmt.Sprint("Turn by ", n), Turn(p, n), quarters[((n%4)+4)%4])
	}
	// Both ends of an int, and numbers that are none in fewer bits.
	for n, quarter := range map[int]int{
		least: 0, least + 1: 1, least + 2: 2, least + 3: 3, greatest: 3, greatest - 1: 2, greatest - 2: 1, greatest - 3: 0,
		1 << 32: 0, 1<<32 + 1: 1, -1 << 32: 0, -1<<32 - 1: 3, 1000000001: 1, -1000000001: 3, 1<<53 + 1: 1, -1<<53 - 1: 3,
	} {
		wantPoint(t, fmt.Sprint("Turn by ", n), Turn(p, n), quarters[quarter])
	}
	wantPoint(t, "Turn of (0, 0)", Turn(at(0, 0), 3), at(0, 0))
	wantPoint(t, "Turn by none", Turn(at(greatest, least), 0), at(far, -far))
	wantPoint(t, "Turn by one", Turn(at(greatest, least), 1), at(far, far))
	wantPoint(t, "Turn by four", Turn(at(far+1, 9), 4), at(far, 9))
}

func TestP302Sizes(t *testing.T) {
	for _, c := range []struct {
		p                api.Point
		norm, steps, big int
	}{
		{at(0, 0), 0, 0, 0}, {at(1, 0), 1, 1, 1}, {at(0, -1), 1, 1, 1}, {at(3, 4), 25, 7, 4}, {at(-3, 4), 25, 7, 4}, {at(4, -3), 25, 7, 4},
		{at(-4, -3), 25, 7, 4}, {at(5, 5), 50, 10, 5}, {at(-6, 0), 36, 6, 6}, {at(0, 6), 36, 6, 6},
		{at(1048576, -1048576), 2199023255552, 2097152, 1048576}, {at(1048577, -1048577), 2199023255552, 2097152, 1048576},
		{at(greatest, 0), 1099511627776, 1048576, 1048576}, {at(1, least), 1099511627777, 1048577, 1048576},
		{at(1048575, 1), 1099509530626, 1048576, 1048575}, {at(least, greatest), 2199023255552, 2097152, 1048576},
	} {
		if norm, steps, big := Norm(c.p), Steps(c.p), Big(c.p); norm != c.norm || steps != c.steps || big != c.big {
			t.Errorf("of %v: %d %d %d, not %d %d %d", c.p, norm, steps, big, c.norm, c.steps, c.big)
		}
	}
}

func TestP302AsReckoned(t *testing.T) {
	for _, p := range pointsOf(edges()) {
		x, y := withoutSign(fixed(p.X)), withoutSign(fixed(p.Y))
		if got := Norm(p); got != x*x+y*y {
			t.Errorf("Norm(%v): %d, not %d", p, got, x*x+y*y)
		}
		if got := Steps(p); got != x+y {
			t.Errorf("Steps(%v): %d, not %d", p, got, x+y)
		}
		if got := Big(p); got != max(x, y) {
			t.Errorf("Big(%v): %d, not %d", p, got, max(x, y))
		}
		turned := fixedPoint(p)
		for n := range 9 {
			wantPoint(t, fmt.Sprint("Turn", p, n), Turn(p, n), turned)
			wantPoint(t, fmt.Sprint("Turn", p, n-8), Turn(p, n-8), turned)
			turned = at(-turned.Y, turned.X)
		}
	}
}

func TestP303TextAndParse(t *testing.T) {
	for p, s := range map[api.Point]string{
		at(0, 0): "0,0", at(3, 4): "3,4", at(-3, 4): "-3,4", at(3, -4): "3,-4", at(-10, -20): "-10,-20", at(0, -1): "0,-1",
		at(1048576, -1048576): "1048576,-1048576",
		// Neither fixes what is beyond Far.
		at(1048577, -1048577): "1048577,-1048577", at(1<<40, 7): "1099511627776,7",
		at(1<<53+1, -1<<53-1): "9007199254740993,-9007199254740993",
		at(greatest, least):   "9223372036854775807,-9223372036854775808",
		at(least, greatest):   "-9223372036854775808,9223372036854775807",
	} {
		if got := Text(p); got != s {
			t.Errorf("Text(%v): %q, not %q", p, got, s)
		}
		wantParse(t, s, p, true)
	}
	told := map[string]bool{}
	for _, p := range pointsOf(edges()) {
		s := Text(p)
		if want := strconv.Itoa(p.X) + "," + strconv.Itoa(p.Y); s != want || told[s] {
			t.Errorf("Text(%v): %q, not %q", p, s, want)
		}
		told[s] = true
		wantParse(t, s, p, true)
	}
}

func TestP303ParseOfOtherTexts(t *testing.T) {
	for _, s := range []string{
		"", ",", ",,", "3", "3,", ",4", "3,4,", ",3,4", "3,,4", "3,4,5", "3,4,5,6", "3, 4", "3 ,4", " 3,4", "3,4 ", "3 4", "3;4", "3.4", "3.,4", "3.0,4",
		"-0,4", "3,-0", "03,4", "3,04", "-03,4", "+3,4", "3,+4", "--3,4", "3,-", "-,4", "-,-", "3-,4", "(3,4)", "3+4i", "a,b", "3,b", "a,4", "0x3,4", "3e1,4",
		"9223372036854775808,4", "3,9223372036854775808", "-9223372036854775809,4", "3,-9223372036854775809", "18446744073709551619,4", "3,99999999999999999999",
		"3,4\n", "3\n,4", "3,4\x00", "\x003,4", "3\x00,4", "3\uff0c4", "3\u060c4", "\uff13,4", "3,4\xff", "3\t,4",
	} {
		wantParse(t, s, api.Point{}, false)
	}
	wantParse(t, strings.Repeat(",", 100000), api.Point{}, false)
	wantParse(t, "1,"+strings.Repeat("1", 100000), api.Point{}, false)
}

// TestP303OfAllShortTexts: a point is told of just those texts that it has itself.
func TestP303OfAllShortTexts(t *testing.T) {
	own := map[string]api.Point{}
	for x := -9999; x <= 9999; x++ {
		for _, y := range []int{0, 1, 2, 10, 11, 12, 20, 21, 22, -1, -2, -10, -11, -12, -20, -21, -22} {
			own[strconv.Itoa(x)+","+strconv.Itoa(y)] = at(x, y)
			own[strconv.Itoa(y)+","+strconv.Itoa(x)] = at(y, x)
		}
	}
	longest := []string{""}
	for range 6 {
		var longer []string
		for _, s := range longest {
			for _, sign := range []string{"0", "1", "2", "-", ",", " "} {
				s := s + sign
				longer = append(longer, s)
				p, is := own[s]
				wantParse(t, s, p, is)
			}
		}
		longest = longer
	}
}

// someParts are at most 500 without their sign, as P304 has them.
func someParts() []int {
	return []int{-500, -499, -37, -1, 0, 1, 2, 256, 499, 500}
}

func TestP304LawsOfOneAndTwo(t *testing.T) {
	l := pointsOf(append(someParts(), -444, -256, -100, -9, -3, -2, 3, 5, 10, 77, 123, 321))
	for _, p := range l {
		wantPoint(t, fmt.Sprint("times Conj of ", p), Mul(p, Conj(p)), at(Norm(p), 0))
		wantPoint(t, fmt.Sprint("four quarters of ", p), Turn(p, 4), p)
		wantPoint(t, fmt.Sprint("quarters one by one of ", p), Turn(Turn(Turn(Turn(p, 1), 1), 1), 1), p)
		wantPoint(t, fmt.Sprint("to and fro of ", p), Turn(Turn(p, 1), -1), p)
		turned := p
		for n := range 4 {
			wantPoint(t, fmt.Sprint("turn of ", p), Turn(p, n), turned)
			turned = Mul(turned, at(0, 1))
		}
		if norm, square := Norm(p), Steps(p)*Steps(p); 2*norm < square || norm > square {
			t.Errorf("Norm of %v: %d, and Steps squared %d", p, norm, square)
		}
		for _, q := range l {
			if Add(p, q) != Add(q, p) || Mul(p, q) != Mul(q, p) {
				t.Fatalf("of %v and %v the other way round", p, q)
			}
			if Norm(Mul(p, q)) != Norm(p)*Norm(q) {
				t.Fatalf("Norm of %v times %v: %d, and %d times %d", p, q, Norm(Mul(p, q)), Norm(p), Norm(q))
			}
			if Steps(Add(p, q)) > Steps(p)+Steps(q) {
				t.Fatalf("Steps of %v and %v: %d", p, q, Steps(Add(p, q)))
			}
			if Sub(Add(p, q), q) != p {
				t.Fatalf("%v and %v, less that: %v", p, q, Sub(Add(p, q), q))
			}
		}
	}
}

func TestP304LawsOfThree(t *testing.T) {
	l := pointsOf(someParts())
	for _, p := range l {
		for _, q := range l {
			for _, r := range l {
				if Add(Add(p, q), r) != Add(p, Add(q, r)) {
					t.Fatalf("sum of %v, %v and %v", p, q, r)
				}
				if Mul(Mul(p, q), r) != Mul(p, Mul(q, r)) {
					t.Fatalf("product of %v, %v and %v", p, q, r)
				}
				if Mul(p, Add(q, r)) != Add(Mul(p, q), Mul(p, r)) {
					t.Fatalf("%v times the sum of %v and %v", p, q, r)
				}
			}
		}
	}
}

func TestExamplesOfTheChapter(t *testing.T) {
	wantPoint(t, "i times i", Mul(at(0, 1), at(0, 1)), at(-1, 0))
	wantPoint(t, "a quarter", Turn(at(1, 0), 1), at(0, 1))
}

func FuzzPoints(f *testing.F) {
	f.Add(3, 4, -5, 2, 1)
	f.Add(greatest, least, 1<<53+1, far+1, least)
	f.Fuzz(func(t *testing.T, x, y, u, v, n int) {
		p, q := at(x, y), at(u, v)
		a, b, c, d := fixed(x), fixed(y), fixed(u), fixed(v)
		wantPoint(t, "Mul", Mul(p, q), at(a*c-b*d, a*d+b*c))
		wantPoint(t, "Turn", Turn(p, n), []api.Point{at(a, b), at(-b, a), at(-a, -b), at(b, -a)}[((n%4)+4)%4])
		wantParse(t, Text(p), p, true)
	})
}

func FuzzTexts(f *testing.F) {
	for _, s := range []string{"", ",", "3,4", "-3,-4", "3, 4", "-0,1", "1,2,3", "9223372036854775808,0"} {
		f.Add(s)
	}
	f.Fuzz(func(t *testing.T, s string) {
		if p, ok := Parse(s); ok && Text(p) != s || !ok && p != (api.Point{}) {
			t.Errorf("Parse(%q): %v %v", s, p, ok)
		}
	})
}
