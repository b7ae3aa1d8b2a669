package motion

import (
	"fmt"
	"math"
	"testing"

	"tallyman/api"
	"tallyman/gauss"
)

const (
	least    = math.MinInt
	greatest = math.MaxInt
	far      = 1048576
)

func at(x, y int) api.Point {
	return api.Point{X: x, Y: y}
}

func by(turn, x, y int) api.Motion {
	return api.Motion{Turn: turn, By: at(x, y)}
}

// edges are numbers about Far, and such as a float, or an int of fewer bits, does not hold.
func edges() []int {
	return []int{least, -1<<53 - 1, -1<<32 - 5, -far - 1, -far, -far + 1, -7, 0, 1, 999, far - 1, far, far + 1, 1<<32 + 3, 1<<53 + 1, greatest}
}

// turnEdges are all four quarters, about 0, at both ends of an int, and beyond fewer bits.
func turnEdges() []int {
	return []int{
		-9, -5, -4, -3, -2, -1, 0, 1, 2, 3, 4, 5, 6, 7, 8, 1 << 32, 1<<32 + 1, -1<<32 - 1, 1<<53 + 1, -1<<53 - 1,
		least, least + 1, least + 2, least + 3, greatest, greatest - 1, greatest - 2, greatest - 3,
	}
}

// pointsOf are all points whose parts are of these numbers.
func pointsOf(numbers []int) []api.Point {
	var l []api.Point
	for _, x := range numbers {
		for _, y := range numbers {
			l = append(l, at(x, y))
		}
	}
	return l
}

func motionsOf(turns []int, points []api.Point) []api.Motion {
	var l []api.Motion
	for _, turn := range turns {
		for _, p := range points {
			l = append(l, api.Motion{Turn: turn, By: p})
		}
	}
	return l
}

func fixedPart(n int) int {
	switch {
	case n < -far:
		return -far
	case n > far:
		return far
	}
	return n
}

func fixedPoint(p api.Point) api.Point {
	return at(fixedPart(p.X), fixedPart(p.Y))
}

func fixedMotion(m api.Motion) api.Motion {
	return api.Motion{Turn: (m.Turn%4 + 4) % 4, By: fixedPoint(m.By)}
}

func sum(p, q api.Point) api.Point {
	return at(p.X+q.X, p.Y+q.Y)
}

func difference(p, q api.Point) api.Point {
	return at(p.X-q.X, p.Y-q.Y)
}

// turned has the quarters told by cases, of whole numbers that are not fixed.
func turned(p api.Point, quarters int) api.Point {
	return []api.Point{p, at(-p.Y, p.X), at(-p.X, -p.Y), at(p.Y, -p.X)}[quarters%4]
}

// after is a, and then b, neither of them fixed.
func after(a, b api.Motion) api.Motion {
	return api.Motion{Turn: (a.Turn + b.Turn) % 4, By: sum(turned(a.By, b.Turn), b.By)}
}

func wantPoint(t *testing.T, what string, got, want api.Point) {
	t.Helper()
	if got != want {
		t.Errorf("%s: %v, not %v", what, got, want)
	}
}

func wantMotion(t *testing.T, what string, got, want api.Motion) {
	t.Helper()
	if got != want {
		t.Errorf("%s: %v, not %v", what, got, want)
	}
}

func wantBetween(t *testing.T, p, q, r, s api.Point, want api.Motion, ok bool) {
	t.Helper()
	if m, is := Between(p, q, r, s); m != want || is != ok {
		t.Errorf("Between(%v, %v, %v, %v): %v %v, not %v %v", p, q, r, s, m, is, want, ok)
	}
}

func wantOrder(t *testing.T, m api.Motion, want int) {
	t.Helper()
	if n := Order(m); n != want {
		t.Errorf("Order(%v): %d, not %d", m, n, want)
	}
}

func wantStill(t *testing.T, m api.Motion, want api.Point, ok bool) {
	t.Helper()
	if p, is := Still(m); p != want || is != ok {
		t.Errorf("Still(%v): %v %v, not %v %v", m, p, is, want, ok)
	}
}

func TestP401Fix(t *testing.T) {
	for _, c := range []struct{ m, want api.Motion }{
		{by(0, 0, 0), by(0, 0, 0)}, {by(3, 4, -5), by(3, 4, -5)}, {by(4, 4, -5), by(0, 4, -5)}, {by(7, 1, 2), by(3, 1, 2)},
		{by(-1, 1, 2), by(3, 1, 2)}, {by(-3, 1, 2), by(1, 1, 2)}, {by(-4, 1, 2), by(0, 1, 2)}, {by(-6, 1, 2), by(2, 1, 2)},
		{by(2, 1048576, -1048576), by(2, 1048576, -1048576)}, {by(2, 1048577, -1048577), by(2, 1048576, -1048576)},
		{by(1, -1048577, 1048577), by(1, -1048576, 1048576)}, {by(1, 1048575, -1048575), by(1, 1048575, -1048575)},
		{by(greatest, greatest, least), by(3, 1048576, -1048576)}, {by(least, least, greatest), by(0, -1048576, 1048576)},
		{by(greatest-1, 1<<32, 1<<53+1), by(2, 1048576, 1048576)}, {by(least+1, -1<<32, 5), by(1, -1048576, 5)},
	} {
		wantMotion(t, fmt.Sprint("Fix", c.m), Fix(c.m), c.want)
	}
	for _, m := range motionsOf(turnEdges(), pointsOf(edges())) {
		wantMotion(t, fmt.Sprint("Fix", m), Fix(m), fixedMotion(m))
	}
}

func TestP401Do(t *testing.T) {
	p := at(3, 5)
	for turn, want := range []api.Point{at(13, 6), at(5, 4), at(7, -4), at(15, -2)} {
		wantPoint(t, fmt.Sprint("turned by ", turn), Do(by(turn, 10, 1), p), want)
		wantPoint(t, fmt.Sprint("turned by 4 more than ", turn), Do(by(turn+4, 10, 1), p), want)
		wantPoint(t, fmt.Sprint("turned by 8 less than ", turn), Do(by(turn-8, 10, 1), p), want)
	}
	wantPoint(t, "the zero motion", Do(api.Motion{}, p), p)
	wantPoint(t, "of (0, 0)", Do(by(3, -7, 8), at(0, 0)), at(-7, 8))
	// Motion and point are fixed, each by itself; where it comes to is not.
	wantPoint(t, "beyond Far", Do(by(0, far, -far), at(far, -far)), at(2097152, -2097152))
	wantPoint(t, "from beyond Far", Do(by(1, greatest, far+1), at(far+1, least)), at(2097152, 2097152))
	wantPoint(t, "from beyond Far on", Do(by(least, 1, 1), at(far+1, -far-1)), at(1048577, -1048575))
}

func TestP401Then(t *testing.T) {
	a, b := by(1, 10, 1), by(2, 3, 5)
	wantMotion(t, "a, and b", Then(a, b), by(3, -7, 4))
	wantMotion(t, "b, and a", Then(b, a), by(3, 5, 4))
	wantMotion(t, "a, and a", Then(a, a), by(2, 9, 11))
	wantMotion(t, "three quarters twice", Then(by(3, 10, 1), by(3, 2, 2)), by(2, 3, -8))
	wantMotion(t, "four quarters", Then(by(3, 10, 1), by(1, 2, 2)), by(0, 1, 12))
	wantMotion(t, "none ahead", Then(api.Motion{}, a), a)
	wantMotion(t, "none behind", Then(a, api.Motion{}), a)
	// Both are fixed, each by itself, so that the sum of their turns stays an int; what is told is not.
	wantMotion(t, "beyond Far", Then(by(0, far, far), by(0, far, far)), by(0, 2097152, 2097152))
	wantMotion(t, "both beyond", Then(by(greatest, greatest, least), by(greatest, least, greatest)), by(2, -2097152, 0))
	wantMotion(t, "both below", Then(by(least, least, 5), by(least+3, 4, least)), by(3, 9, 0))
	wantMotion(t, "one beyond", Then(by(0, far+1, 0), by(0, 1, 0)), by(0, 1048577, 0))
}

func TestP401Back(t *testing.T) {
	for _, c := range []struct{ m, want api.Motion }{
		{by(0, 10, 1), by(0, -10, -1)}, {by(1, 10, 1), by(3, -1, 10)}, {by(2, 10, 1), by(2, 10, 1)}, {by(3, 10, 1), by(1, 1, -10)},
		{by(0, 0, 0), by(0, 0, 0)}, {by(1, 0, 0), by(3, 0, 0)}, {by(3, 0, 0), by(1, 0, 0)}, {by(-1, 10, 1), by(1, 1, -10)}, {by(5, 10, 1), by(3, -1, 10)},
		{by(0, far, -far), by(0, -far, far)}, {by(4, greatest, least), by(0, -far, far)},
		{by(least, least, greatest), by(0, far, -far)}, {by(greatest, least, 9), by(1, 9, 1048576)},
	} {
		wantMotion(t, fmt.Sprint("Back", c.m), Back(c.m), c.want)
	}
}

// TestP401AsReckoned holds all three against whole numbers.
func TestP401AsReckoned(t *testing.T) {
	some := []int{least, -far - 1, -far, -7, 0, 3, far, greatest}
	l := motionsOf([]int{-7, -2, 0, 1, 2, 3, greatest}, pointsOf(some))
	for _, m := range motionsOf(turnEdges(), pointsOf(edges())) {
		f := fixedMotion(m)
		rest := (4 - f.Turn) % 4
		wantMotion(t, fmt.Sprint("Back", m), Back(m), api.Motion{Turn: rest, By: turned(at(-f.By.X, -f.By.Y), rest)})
		for _, p := range pointsOf(some) {
			wantPoint(t, fmt.Sprint("Do", m, p), Do(m, p), sum(turned(fixedPoint(p), f.Turn), f.By))
		}
	}
	for _, a := range l {
		for _, b := range l {
			if got, want := Then(a, b), after(fixedMotion(a), fixedMotion(b)); got != want {
				t.Fatalf("Then(%v, %v): %v, not %v", a, b, got, want)
			}
		}
	}
}

func TestP402Between(t *testing.T) {
	p, q := at(1, 2), at(4, 3)
	wantBetween(t, p, q, p, q, api.Motion{}, true)
	wantBetween(t, p, q, at(5, 0), at(8, 1), by(0, 4, -2), true)
	wantBetween(t, p, q, at(5, 0), at(4, 3), by(1, 7, -1), true)
	wantBetween(t, p, q, at(5, 0), at(2, -1), by(2, 6, 2), true)
	wantBetween(t, p, q, at(5, 0), at(6, -3), by(3, 3, 1), true)
	wantBetween(t, p, q, q, p, by(2, 5, 5), true)
	// Mirrored, longer, shorter, and as long another way: no motion.
	for _, s := range []api.Point{at(8, -1), at(2, 1), at(6, 3), at(4, -3), at(11, 2), at(8, 0), at(6, 1), at(5, 0)} {
		wantBetween(t, p, q, at(5, 0), s, api.Motion{}, false)
	}
	// With one point twice any turn would do, and the least one is told.
	wantBetween(t, p, p, at(-3, 7), at(-3, 7), by(0, -4, 5), true)
	wantBetween(t, p, p, p, p, api.Motion{}, true)
	wantBetween(t, p, p, at(-3, 7), at(-3, 8), api.Motion{}, false)
}

func TestP402BetweenAtFar(t *testing.T) {
	// By as it must be for that, beyond Far too.
	wantBetween(t, at(far, far), at(far, far), at(-far, -far), at(-far, -far), by(0, -2097152, -2097152), true)
	wantBetween(t, at(far-1, 5), at(far, 5), at(-far, 5), at(1-far, 5), by(0, -2097151, 0), true)
	wantBetween(t, at(far, 0), at(far-1, 0), at(far, 0), at(far, -1), by(1, 1048576, -1048576), true)
	wantBetween(t, at(far, 0), at(far-1, 0), at(far-1, 0), at(far, 0), by(2, 2097151, 0), true)
	// The way between two points may be beyond Far as well.
	wantBetween(t, at(-far, -far), at(far, -far+1), at(far, -far), at(far-1, far), by(1, 0, 0), true)
	wantBetween(t, at(-far, -far), at(far, -far+1), at(far, -far), at(far-1, 0), api.Motion{}, false)
	wantBetween(t, at(-far, 0), at(far, 1), at(-far, 0), at(0, 1), api.Motion{}, false)
	// Points count as fixed, so that two of them may be one.
	wantBetween(t, at(greatest, 0), at(far+1, 0), at(least, 0), at(-far-1, 0), by(0, -2097152, 0), true)
	wantBetween(t, at(far, 0), at(far-1, 0), at(-far, 0), at(-far-1, 0), api.Motion{}, false)
	wantBetween(t, at(far+5, 0), at(far-1, 0), at(far+9, 0), at(far-1, 0), by(0, 0, 0), true)
	wantBetween(t, at(1<<53+1, 0), at(far, 1), at(0, 0), at(1<<32, 0), api.Motion{}, false)
}

// wantedBetween tries the turns one by one, on whole numbers.
func wantedBetween(p, q, r, s api.Point) (api.Motion, bool) {
	p, q, r, s = fixedPoint(p), fixedPoint(q), fixedPoint(r), fixedPoint(s)
	for turn := range 4 {
		way := difference(r, turned(p, turn))
		if sum(turned(q, turn), way) == s {
			return api.Motion{Turn: turn, By: way}, true
		}
	}
	return api.Motion{}, false
}

func TestP402BetweenOfAll(t *testing.T) {
	for _, parts := range [][]int{{-1, 0, 1}, {0, 1, 3}, {-2, 1, 2}, {-far, 0, far}, {-far, 1 - far, far}, {least, far - 1, far + 1}} {
		l := pointsOf(parts)
		for _, p := range l {
			for _, q := range l {
				for _, r := range l {
					for _, s := range l {
						m, ok := wantedBetween(p, q, r, s)
						wantBetween(t, p, q, r, s, m, ok)
					}
				}
			}
		}
	}
}

func TestP402Order(t *testing.T) {
	wantOrder(t, api.Motion{}, 1)
	for _, p := range append(pointsOf(edges()), at(1, 0), at(0, -1), at(3, 3), at(-2, 2)) {
		for _, full := range []int{0, 4, -4, -400, 1 << 40, least} {
			none := 0
			if p == at(0, 0) {
				none = 1
			}
			wantOrder(t, api.Motion{Turn: full, By: p}, none)
		}
		for _, odd := range []int{1, 3, -1, -3, 5, 7, least + 1, greatest} {
			wantOrder(t, api.Motion{Turn: odd, By: p}, 4)
		}
		for _, half := range []int{2, -2, 6, least + 2, greatest - 1} {
			wantOrder(t, api.Motion{Turn: half, By: p}, 2)
		}
	}
}

// TestP402OrderAsTheNumbersCome: put together by Then, whose numbers count as fixed, these would not come back.
func TestP402OrderAsTheNumbersCome(t *testing.T) {
	for _, turn := range []int{1, 3} {
		m := by(turn, far, far)
		wantOrder(t, m, 4)
		if Times(m, 4) == (api.Motion{}) {
			t.Errorf("%v four times is none by Then too", m)
		}
	}
}

func TestP402Still(t *testing.T) {
	for _, c := range []struct {
		m    api.Motion
		want api.Point
		ok   bool
	}{
		{by(2, 2, 0), at(1, 0), true}, {by(2, 2, 6), at(1, 3), true}, {by(2, -2, -6), at(-1, -3), true}, {by(2, 0, 0), at(0, 0), true},
		{by(2, 1, 0), at(0, 0), false}, {by(2, 0, 1), at(0, 0), false}, {by(2, 3, 5), at(0, 0), false}, {by(2, -1, 4), at(0, 0), false},
		{by(1, 2, 0), at(1, 1), true}, {by(1, 4, 2), at(1, 3), true}, {by(1, 3, 5), at(-1, 4), true}, {by(1, 0, 0), at(0, 0), true},
		{by(1, 1, 0), at(0, 0), false}, {by(1, 0, 1), at(0, 0), false}, {by(1, -3, 2), at(0, 0), false},
		{by(3, 2, 0), at(1, -1), true}, {by(3, 4, 2), at(3, -1), true}, {by(3, 3, 5), at(4, 1), true}, {by(3, 0, 0), at(0, 0), true},
		{by(3, 1, 0), at(0, 0), false}, {by(3, 0, -1), at(0, 0), false}, {by(3, 2, 5), at(0, 0), false},
		// What moves nothing leaves more than one point where it is; what turns nothing else leaves none.
		{by(0, 0, 0), at(0, 0), false}, {by(0, 2, 0), at(0, 0), false}, {by(0, 0, -4), at(0, 0), false}, {by(4, 0, 0), at(0, 0), false}, {by(-8, 2, 2), at(0, 0), false},
		{by(6, 2, 0), at(1, 0), true}, {by(-2, 2, 0), at(1, 0), true}, {by(-1, 4, 2), at(3, -1), true}, {by(-3, 4, 2), at(1, 3), true},
		{by(1, far, -far), at(far, 0), true}, {by(1, far, far), at(0, far), true}, {by(3, far, far), at(far, 0), true}, {by(2, -far, far), at(-524288, 524288), true},
		{by(1, far, 1-far), at(0, 0), false}, {by(2, far-1, 0), at(0, 0), false}, {by(3, 1-far, far-1), at(0, far-1), true},
		// As the motion counts, not as it comes in.
		{by(2, far+1, 0), at(524288, 0), true}, {by(1, far+1, 0), at(524288, 524288), true}, {by(1, far+2, 1), at(0, 0), false},
		{by(greatest, greatest, least), at(0, -far), true}, {by(least, 0, 0), at(0, 0), false}, {by(least+2, least, 1<<53+1), at(-524288, 524288), true},
	} {
		wantStill(t, c.m, c.want, c.ok)
	}
}

// TestP402StillOfAll looks through all points that could be left: a point that is left is no greater than the way.
func TestP402StillOfAll(t *testing.T) {
	var parts []int
	for n := -7; n <= 7; n++ {
		parts = append(parts, n)
	}
	l := pointsOf(parts)
	for _, m := range motionsOf([]int{0, 1, 2, 3}, l) {
		var left []api.Point
		for _, p := range l {
			if sum(turned(p, m.Turn), m.By) == p {
				left = append(left, p)
			}
		}
		if len(left) == 1 {
			wantStill(t, m, left[0], true)
		} else {
			wantStill(t, m, api.Point{}, false)
		}
	}
}

// TestP402StillAtFar: just the ways whose parts are both even, or for an odd turn as even as each other, have a point.
func TestP402StillAtFar(t *testing.T) {
	for _, m := range motionsOf(turnEdges(), pointsOf([]int{least, -far, 1 - far, 2 - far, -3, 0, 1, 2, far - 3, far - 2, far - 1, far, greatest})) {
		f := fixedMotion(m)
		x, y := f.By.X, f.By.Y
		is := []bool{false, (x+y)%2 == 0, x%2 == 0 && y%2 == 0, (x+y)%2 == 0}[f.Turn]
		p, ok := Still(m)
		if ok != is || !is && p != (api.Point{}) || is && sum(turned(p, f.Turn), f.By) != p {
			t.Errorf("Still(%v): %v %v", m, p, ok)
		}
	}
}

func TestP403Times(t *testing.T) {
	m := by(1, 1, 3)
	for n, want := range []api.Motion{by(0, 0, 0), by(1, 1, 3), by(2, -2, 4), by(3, -3, 1), by(0, 0, 0), by(1, 1, 3)} {
		wantMotion(t, fmt.Sprint(n, " times"), Times(m, n), want)
	}
	way := by(0, 2, -3)
	for n, want := range map[int]api.Motion{
		least: by(0, 0, 0), -1000: by(0, 0, 0), -1: by(0, 0, 0), 0: by(0, 0, 0), 1: by(0, 2, -3), 2: by(0, 4, -6), 999: by(0, 1998, -2997),
		1000: by(0, 2000, -3000), 1001: by(0, 2000, -3000), 1<<32 + 1: by(0, 2000, -3000), greatest: by(0, 2000, -3000),
	} {
		wantMotion(t, fmt.Sprint(n, " times"), Times(way, n), want)
	}
	wantMotion(t, "turned 1,001 times", Times(by(1, 0, 0), 1001), by(0, 0, 0))
	wantMotion(t, "turned 999 times", Times(by(1, 0, 0), 999), by(3, 0, 0))
	wantMotion(t, "the zero motion", Times(api.Motion{}, greatest), api.Motion{})
}

// TestP403ByCountsAsFixedInBetween: what the last Then tells is not fixed, what the others tell is.
func TestP403ByCountsAsFixedInBetween(t *testing.T) {
	wantMotion(t, "once", Times(by(5, far+1, least), 1), by(1, 1048576, -1048576))
	for _, n := range []int{2, 3, 4, 1000, greatest} {
		wantMotion(t, fmt.Sprint(n, " times to Far"), Times(by(0, far, -far), n), by(0, 2097152, -2097152))
		wantMotion(t, fmt.Sprint(n, " times beyond Far"), Times(by(4, greatest, least), n), by(0, 2097152, -2097152))
	}
	way := by(0, 1000000, -1000000)
	wantMotion(t, "twice", Times(way, 2), by(0, 2000000, -2000000))
	wantMotion(t, "three times", Times(way, 3), by(0, 2048576, -2048576))
	corner := by(1, far, far)
	for n, want := range []api.Motion{by(0, 0, 0), by(1, far, far), by(2, 0, 2*far), by(3, 0, far), by(0, 0, far), by(1, 0, far), by(2, 0, far)} {
		wantMotion(t, fmt.Sprint(n, " times"), Times(corner, n), want)
	}
}

func TestP403AsReckoned(t *testing.T) {
	for _, m := range motionsOf([]int{-1, 0, 1, 2, 3, greatest}, pointsOf([]int{least, -far, -700000, -3, 0, 1, 600000, far - 1, greatest})) {
		whole := api.Motion{}
		for n := range 12 {
			wantMotion(t, fmt.Sprint(m, n, " times"), Times(m, n), whole)
			whole = after(fixedMotion(whole), fixedMotion(m))
		}
	}
}

// someParts are at most 500 without their sign, as P404 has them.
func someParts() []int {
	return []int{-500, -37, 0, 1, 256, 499, 500}
}

func TestP404Then(t *testing.T) {
	motions := motionsOf([]int{0, 1, 2, 3}, pointsOf([]int{-500, -37, 0, 1, 499}))
	points := pointsOf([]int{-500, -1, 0, 256})
	for _, a := range motions {
		for _, b := range motions {
			both := Then(a, b)
			for _, p := range points {
				if got, want := Do(both, p), Do(b, Do(a, p)); got != want {
					t.Fatalf("%v, and %v, of %v: %v, not %v", a, b, p, got, want)
				}
			}
			for _, c := range motions {
				if got, want := Then(both, c), Then(a, Then(b, c)); got != want {
					t.Fatalf("%v, %v and %v: %v, not %v", a, b, c, got, want)
				}
			}
		}
	}
}

func TestP404Back(t *testing.T) {
	points := pointsOf(someParts())
	for _, m := range motionsOf([]int{-5, 0, 1, 2, 3, 4}, points) {
		wantMotion(t, fmt.Sprint("undone, ", m), Then(m, Back(m)), api.Motion{})
		wantMotion(t, fmt.Sprint("undone ahead, ", m), Then(Back(m), m), api.Motion{})
		wantMotion(t, fmt.Sprint("undone twice, ", m), Back(Back(m)), Fix(m))
		for _, p := range points {
			wantPoint(t, fmt.Sprint("there and back, ", m), Do(Back(m), Do(m, p)), p)
			wantPoint(t, fmt.Sprint("back and there, ", m), Do(m, Do(Back(m), p)), p)
		}
	}
}

// TestP404StepsAndNorm: what is between two points stays, so that Between finds the motion again.
func TestP404StepsAndNorm(t *testing.T) {
	points := pointsOf(someParts())
	for _, m := range motionsOf([]int{0, 1, 2, 3}, pointsOf([]int{-500, 0, 77, 500})) {
		for _, p := range points {
			for _, q := range points {
				r, s := Do(m, p), Do(m, q)
				ahead, behind := gauss.Sub(q, p), gauss.Sub(s, r)
				if gauss.Steps(ahead) != gauss.Steps(behind) || gauss.Norm(ahead) != gauss.Norm(behind) {
					t.Fatalf("%v: from %v to %v, and then from %v to %v", m, p, q, r, s)
				}
				if p != q {
					wantBetween(t, p, q, r, s, m, true)
				}
			}
		}
	}
}

func TestP404Order(t *testing.T) {
	for _, m := range motionsOf([]int{-3, -2, 0, 1, 2, 3, 4, 6}, pointsOf(append(someParts(), -500, -499, -2, -1, 2, 9, 100))) {
		order := Order(m)
		for n := 1; n <= 12; n++ {
			is := order > 0 && n%order == 0
			if (Times(m, n) == api.Motion{}) != is {
				t.Fatalf("%v, %d times: %v, and Order %d", m, n, Times(m, n), order)
			}
		}
		if order == 0 && Times(m, 1000) == (api.Motion{}) {
			t.Fatalf("%v, 1,000 times, is none, and Order 0", m)
		}
	}
}

func TestExampleOfTheChapter(t *testing.T) {
	wantStill(t, by(2, 2, 0), at(1, 0), true)
	wantOrder(t, by(2, 2, 0), 2)
}

func FuzzMotions(f *testing.F) {
	f.Add(1, 10, 1, 2, 3, 5, 7)
	f.Add(greatest, greatest, least, least, 1<<53+1, far+1, 1001)
	f.Fuzz(func(t *testing.T, turn, x, y, other, u, v, n int) {
		a, b, p := by(turn, x, y), by(other, u, v), at(v, x)
		fixed := fixedMotion(a)
		wantMotion(t, "Fix", Fix(a), fixed)
		wantMotion(t, "Then", Then(a, b), after(fixed, fixedMotion(b)))
		wantMotion(t, "undone", Then(a, Back(a)), api.Motion{})
		wantPoint(t, "Do", Do(a, p), sum(turned(fixedPoint(p), fixed.Turn), fixed.By))
		wantMotion(t, "Times", Times(a, n), Times(fixed, max(0, min(n, 1000))))
		m, ok := wantedBetween(a.By, p, b.By, at(u, y))
		wantBetween(t, a.By, p, b.By, at(u, y), m, ok)
		if still, ok := Still(a); ok && Do(a, still) != still || !ok && still != (api.Point{}) {
			t.Errorf("Still(%v): %v %v", a, still, ok)
		}
	})
}
