package fence

import (
	"fmt"
	"math"
	"math/rand"
	"slices"
	"testing"

	"tallyman/api"
	"tallyman/motion"
)

const (
	least    = math.MinInt
	greatest = math.MaxInt
	far      = 1048576
)

func at(x, y int) api.Point {
	return api.Point{X: x, Y: y}
}

func points(l ...api.Point) []api.Point {
	return l
}

func by(turn, x, y int) api.Motion {
	return api.Motion{Turn: turn, By: at(x, y)}
}

// squareOf has its corners to the left around it.
func squareOf(side int) []api.Point {
	return points(at(0, 0), at(side, 0), at(side, side), at(0, side))
}

// hook is a fence of 6 corners around 5 cells.
func hook() []api.Point {
	return points(at(0, 0), at(3, 0), at(3, 1), at(1, 1), at(1, 3), at(0, 3))
}

// eight crosses itself in (0, 0): it goes to the left around what is to the north-east, and to the right around what is to the south-west.
func eight(side int) []api.Point {
	return points(at(-1, 0), at(side, 0), at(side, side), at(0, side), at(0, -1), at(-1, -1))
}

func reversed(l []api.Point) []api.Point {
	back := slices.Clone(l)
	slices.Reverse(back)
	return back
}

// begunAt has the same ring from another corner on.
func begunAt(l []api.Point, n int) []api.Point {
	return slices.Concat(l[n:], l[:n])
}

func with(l []api.Point, n int, p api.Point) []api.Point {
	changed := slices.Clone(l)
	changed[n] = p
	return changed
}

// rounds goes so many times around the same corners.
func rounds(l []api.Point, times int) []api.Point {
	return slices.Repeat(l, times)
}

// beyond are numbers that no part of a corner may be, such too as a float, or an int of fewer bits, takes for others.
func beyond() []int {
	return []int{least, least + 1, -1 << 53, -1<<32 - 1, -1 << 32, -far - 2, -far - 1, far + 1, far + 2, 1 << 32, 1<<32 + 1, 1<<53 + 1, greatest - 1, greatest}
}

// edges are numbers about Far, and such as a float, or an int of fewer bits, does not hold.
func edges() []int {
	return append(beyond(), -far, -far+1, -7, -1, 0, 1, 2, 999, far-1, far)
}

func pointsOf(numbers []int) []api.Point {
	var l []api.Point
	for _, x := range numbers {
		for _, y := range numbers {
			l = append(l, at(x, y))
		}
	}
	return l
}

// lists are all lists of so many of these points, told one by one in the same memory.
func lists(n int, of []api.Point, tell func(l []api.Point)) {
	l := make([]api.Point, n)
	var fill func(i int)
	fill = func(i int) {
		if i == n {
			tell(l)
			return
		}
		for _, p := range of {
			l[i] = p
			fill(i + 1)
		}
	}
	fill(0)
}

// woven is the fence whose edges are along these Xs and Ys in turn; begun with an edge that changes Y, if first is 1.
func woven(xs, ys []int, first int) []api.Point {
	var l []api.Point
	for i, x := range xs {
		l = append(l, at(x, ys[i]), at(xs[(i+1)%len(xs)], ys[i]))
	}
	return begunAt(l, first)
}

// ringOfNumbers has no number twice side by side, its last and its first one neither.
func ringOfNumbers(r *rand.Rand, n, low, high int) []int {
	l := make([]int, n)
	for i := range l {
		l[i] = low + r.Intn(high-low+1)
		for i > 0 && l[i] == l[i-1] || i == n-1 && l[i] == l[0] {
			l[i] = low + r.Intn(high-low+1)
		}
	}
	return l
}

// fences are some of 4 to 256 corners, with parts from low to high, which must be three numbers at least.
func fences(low, high int) [][]api.Point {
	r := rand.New(rand.NewSource(6))
	var all [][]api.Point
	for _, n := range []int{2, 3, 4, 5, 6, 7, 9, 12, 17, 30, 61, 100, 127, 128} {
		for first := range 2 {
			all = append(all, woven(ringOfNumbers(r, n, low, high), ringOfNumbers(r, n, low, high), first))
		}
	}
	return all
}

// isFence asks each edge, and the next one, of whole numbers.
func isFence(l []api.Point) bool {
	n := len(l)
	if n < 4 || n > 256 {
		return false
	}
	for i := range l {
		a, b, c := l[i], l[(i+1)%n], l[(i+2)%n]
		if a.X < -far || a.X > far || a.Y < -far || a.Y > far {
			return false
		}
		alongX := a.X != b.X && a.Y == b.Y && b.X == c.X && b.Y != c.Y
		alongY := a.X == b.X && a.Y != b.Y && b.X != c.X && b.Y == c.Y
		if !alongX && !alongY {
			return false
		}
	}
	return true
}

// surveyed is the area by whole numbers: of each edge that changes Y, what lies between it and the least X.
func surveyed(l []api.Point) int {
	area := 0
	for i, a := range l {
		b := l[(i+1)%len(l)]
		area += (a.X + far) * (b.Y - a.Y)
	}
	return area
}

// windings looks to the north, where the document looks to the east: what goes around does so for both.
func windings(l []api.Point, p api.Point) int {
	n := 0
	for i, a := range l {
		b := l[(i+1)%len(l)]
		if a.Y <= p.Y {
			continue
		}
		if b.X <= p.X && p.X < a.X {
			n++
		}
		if a.X <= p.X && p.X < b.X {
			n--
		}
	}
	return n
}

func wantRight(t *testing.T, what any, l []api.Point, want bool) {
	t.Helper()
	if got := Right(l); got != want {
		t.Errorf("Right, %v: %v, not %v", what, got, want)
	}
}

func wantArea(t *testing.T, what any, l []api.Point, want int) {
	t.Helper()
	if got := Area(l); got != want {
		t.Errorf("Area, %v: %d, not %d", what, got, want)
	}
}

func wantCell(t *testing.T, what any, l []api.Point, p api.Point, want int) {
	t.Helper()
	if got := Cell(l, p); got != want {
		t.Errorf("Cell, %v, %v: %d, not %d", what, p, got, want)
	}
}

func wantBox(t *testing.T, l []api.Point, low, high api.Point) {
	t.Helper()
	if a, b := Box(l); a != low || b != high {
		t.Errorf("Box(%v): %v %v, not %v %v", l, a, b, low, high)
	}
}

// wantNone: what is none has neither an area nor cells.
func wantNone(t *testing.T, what any, l []api.Point) {
	t.Helper()
	wantRight(t, what, l, false)
	wantArea(t, what, l, 0)
	for _, p := range append(pointsOf([]int{-2, -1, 0, 1, 2, 3}), pointsOf([]int{least, -far, far - 1, greatest})...) {
		wantCell(t, what, l, p, 0)
	}
}

// noFences are each wrong by one thing.
func noFences() map[string][]api.Point {
	return map[string][]api.Point{
		"nil":                      nil,
		"without a corner":         {},
		"one corner":               points(at(1, 1)),
		"two corners":              points(at(0, 0), at(3, 0)),
		"three corners":            points(at(0, 0), at(3, 0), at(3, 3)),
		"three straight corners":   points(at(0, 0), at(3, 0), at(0, 0)),
		"the first edge slants":    points(at(0, 0), at(3, 1), at(3, 3), at(0, 3)),
		"the second edge slants":   points(at(0, 0), at(3, 0), at(2, 3), at(0, 3)),
		"the last edge slants":     points(at(0, 0), at(3, 0), at(3, 3), at(1, 3)),
		"a corner moved":           points(at(0, 0), at(3, 0), at(4, 3), at(0, 3)),
		"all edges slant":          points(at(1, 0), at(2, 1), at(1, 2), at(0, 1)),
		"slanting to and fro":      points(at(0, 0), at(3, 3), at(0, 0), at(3, 3)),
		"slanting, first straight": points(at(0, 0), at(3, 0), at(3, 3), at(2, 2)),
		"a corner twice":           points(at(0, 0), at(3, 0), at(3, 0), at(3, 3), at(0, 3)),
		"the last corner first":    points(at(0, 0), at(3, 0), at(3, 3), at(0, 3), at(0, 0)),
		"all corners the same":     points(at(1, 1), at(1, 1), at(1, 1), at(1, 1)),
		"each corner twice":        points(at(0, 0), at(0, 0), at(3, 0), at(3, 0), at(3, 3), at(3, 3), at(0, 3), at(0, 3)),
		"two edges on":             points(at(0, 0), at(1, 0), at(3, 0), at(3, 3), at(0, 3)),
		"two edges on, twice":      points(at(0, 0), at(1, 0), at(3, 0), at(3, 3), at(1, 3), at(0, 3)),
		"two edges on at the end":  points(at(0, 1), at(0, 0), at(3, 0), at(3, 3), at(0, 3)),
		"ends with two edges on":   points(at(1, 0), at(3, 0), at(3, 3), at(0, 3), at(0, 0)),
		"forth and back":           points(at(0, 0), at(3, 0), at(0, 0), at(3, 0)),
		"forth and back upwards":   points(at(0, 0), at(0, 3), at(0, 0), at(0, 3)),
		"back behind a corner":     points(at(0, 0), at(3, 0), at(3, 3), at(3, 1), at(0, 1)),
		"back to the first one":    points(at(0, 0), at(3, 0), at(3, 3), at(0, 3), at(3, 3), at(0, 3)),
		"not closed":               points(at(0, 0), at(3, 0), at(3, 3), at(5, 3)),
		"257 corners":              append(rounds(squareOf(3), 64), at(0, 0)),
		"258 corners":              append(rounds(squareOf(3), 63), points(at(0, 0), at(3, 0), at(3, 1), at(1, 1), at(1, 3), at(0, 3))...),
		"260 corners":              rounds(squareOf(3), 65),
		"512 corners":              rounds(squareOf(3), 128),
		"4096 corners":             rounds(squareOf(3), 1024),
	}
}

func TestP601RightOfFences(t *testing.T) {
	for what, l := range map[string][]api.Point{
		"a square": squareOf(3), "the least one": squareOf(1), "six corners": hook(), "crossing itself": eight(2),
		"eight corners":                 points(at(0, 0), at(3, 0), at(3, 1), at(2, 1), at(2, 2), at(1, 2), at(1, 3), at(0, 3)),
		"there and back along one line": points(at(0, 0), at(3, 0), at(3, 2), at(0, 2), at(0, 0), at(3, 0), at(3, 2), at(0, 2)),
		"edges over one another":        points(at(0, 0), at(3, 0), at(3, 3), at(2, 3), at(2, 0), at(1, 0), at(1, 1), at(0, 1)),
		"252 corners":                   rounds(squareOf(3), 63),
		"254 corners":                   append(rounds(squareOf(3), 62), hook()...),
		"256 corners":                   rounds(squareOf(3), 64),
		"all of the floor":              points(at(-far, -far), at(far, -far), at(far, far), at(-far, far)),
		"one wide":                      points(at(-far, 5), at(far, 5), at(far, 6), at(-far, 6)),
	} {
		for n := range l {
			wantRight(t, what, begunAt(l, n), true)
			wantRight(t, what+", the other way round", reversed(begunAt(l, n)), true)
		}
	}
	for _, l := range slices.Concat(fences(0, 3), fences(-far, far)) {
		wantRight(t, l, l, true)
	}
}

func TestP601RightOfWhatIsNone(t *testing.T) {
	for what, l := range noFences() {
		for n := range l {
			wantRight(t, what, begunAt(l, n), false)
		}
		wantRight(t, what, l, false)
		wantRight(t, what+", the other way round", reversed(l), false)
	}
	for _, n := range beyond() {
		for i := range 4 {
			wantRight(t, "one X beyond", with(squareOf(3), i, at(n, squareOf(3)[i].Y)), false)
			wantRight(t, "one Y beyond", with(squareOf(3), i, at(squareOf(3)[i].X, n)), false)
		}
		for _, l := range [][]api.Point{
			Ring(at(0, 0), at(n, 3)), Ring(at(0, 0), at(3, n)), Ring(at(n, 0), at(3, 3)), Ring(at(0, n), at(3, 3)), Ring(at(n, n), at(1, 1)),
			points(at(0, 0), at(3, 0), at(3, 3), at(n, 3), at(n, 1), at(0, 1)),
		} {
			wantRight(t, l, l, false)
		}
	}
	// These only count as a fence with parts that are fixed, or that fewer bits hold.
	for _, l := range [][]api.Point{
		points(at(0, 0), at(far+1, 0), at(far+1, 5), at(0, 5)), points(at(0, 0), at(far, 0), at(far+1, 5), at(0, 5)),
		points(at(1<<53, 0), at(1<<53+2, 0), at(1<<53+2, 5), at(1<<53, 5)), points(at(1<<32, 0), at(5, 0), at(5, 5), at(0, 5)),
	} {
		wantNone(t, l, l)
	}
}

// TestP601RightOfAll: all lists of up to 6 corners of a little floor.
func TestP601RightOfAll(t *testing.T) {
	found := 0
	for n := range 7 {
		lists(n, pointsOf([]int{0, 1, 2}), func(l []api.Point) {
			if got, want := Right(l), isFence(l); got != want {
				t.Fatalf("Right(%v): %v, not %v", l, got, want)
			}
			if isFence(l) {
				found++
			}
		})
	}
	if found != 2*6*6+2*6*6 {
		t.Errorf("%d fences", found)
	}
}

func TestP601Box(t *testing.T) {
	wantBox(t, nil, at(0, 0), at(0, 0))
	wantBox(t, points(), at(0, 0), at(0, 0))
	wantBox(t, points(at(5, -7)), at(5, -7), at(5, -7))
	wantBox(t, points(at(5, 7), at(6, 9)), at(5, 7), at(6, 9))
	wantBox(t, points(at(-5, -7), at(-6, -9)), at(-6, -9), at(-5, -7))
	wantBox(t, points(at(5, 7), at(6, 4), at(3, 5)), at(3, 4), at(6, 7))
	wantBox(t, points(at(2, 8), at(9, 1)), at(2, 1), at(9, 8))
	wantBox(t, hook(), at(0, 0), at(3, 3))
	wantBox(t, eight(2), at(-1, -1), at(2, 2))
	wantBox(t, Ring(at(3, 9), at(-2, 4)), at(-2, 4), at(3, 9))
	// Not fixed, and no fence either.
	wantBox(t, points(at(far+1, -far-1)), at(far+1, -far-1), at(far+1, -far-1))
	wantBox(t, points(at(1<<53+1, 0), at(1<<53, -1<<53-1), at(1<<53, -1<<53)), at(1<<53, -1<<53-1), at(1<<53+1, 0))
	wantBox(t, points(at(0, 0), at(least, greatest), at(greatest, least)), at(least, least), at(greatest, greatest))
	wantBox(t, points(at(greatest, greatest), at(greatest-1, greatest-1)), at(greatest-1, greatest-1), at(greatest, greatest))
	wantBox(t, points(at(least, least), at(least+1, least+1)), at(least, least), at(least+1, least+1))
	wantBox(t, append(rounds(squareOf(2), 100), at(-1, 7)), at(-1, 0), at(2, 7))
	for n := 1; n <= 4; n++ {
		lists(n, pointsOf([]int{-2, 0, 3}), func(l []api.Point) {
			var xs, ys []int
			for _, p := range l {
				xs, ys = append(xs, p.X), append(ys, p.Y)
			}
			wantBox(t, l, at(slices.Min(xs), slices.Min(ys)), at(slices.Max(xs), slices.Max(ys)))
		})
	}
}

func TestP601Ring(t *testing.T) {
	for _, c := range [][]api.Point{
		{at(0, 0), at(3, 0), at(3, 2), at(0, 2)}, {at(-4, 5), at(6, 5), at(6, 7), at(-4, 7)}, {at(3, 2), at(0, 2), at(0, 0), at(3, 0)},
		{at(5, 0), at(1, 0), at(1, 9), at(5, 9)}, {at(2, 2), at(2, 2), at(2, 2), at(2, 2)}, {at(1, 2), at(1, 2), at(1, 4), at(1, 4)},
		{at(far, -far-1), at(-far-2, -far-1), at(-far-2, far+3), at(far, far+3)},
		{at(least, greatest), at(greatest, greatest), at(greatest, least), at(least, least)},
		{at(1<<53+1, 1<<53+3), at(-1<<53-1, 1<<53+3), at(-1<<53-1, 7), at(1<<53+1, 7)},
	} {
		if l := Ring(c[0], c[2]); !slices.Equal(l, c) {
			t.Errorf("Ring(%v, %v): %v, not %v", c[0], c[2], l, c)
		}
	}
	for _, p := range pointsOf(edges()) {
		for _, q := range pointsOf([]int{least, -far, -3, 0, 8, far, greatest}) {
			want := points(p, at(q.X, p.Y), q, at(p.X, q.Y))
			if l := Ring(p, q); !slices.Equal(l, want) || Right(l) != isFence(want) {
				t.Errorf("Ring(%v, %v): %v, not %v", p, q, l, want)
			}
		}
	}
}

func TestP601Move(t *testing.T) {
	for _, c := range []struct {
		m       api.Motion
		l, want []api.Point
	}{
		{by(0, 0, 0), nil, nil}, {by(3, 4, 5), points(), nil}, {by(0, 0, 0), hook(), hook()},
		{by(1, 10, 0), Ring(at(0, 0), at(3, 2)), points(at(10, 0), at(10, 3), at(8, 3), at(8, 0))},
		{by(2, 0, 1), points(at(4, 5), at(-6, 7)), points(at(-4, -4), at(6, -6))},
		{by(-1, 2, 3), points(at(4, 5)), points(at(7, -1))},
		{by(5, 0, 0), points(at(4, 5), at(4, 5)), points(at(-5, 4), at(-5, 4))},
		{by(0, 1, 1), points(at(greatest, least), at(far, -far-9)), points(at(far+1, -far+1), at(far+1, -far+1))},
		{by(0, greatest, least), points(at(far, -far)), points(at(2*far, -2*far))},
	} {
		if l := Move(c.m, c.l); !slices.Equal(l, c.want) {
			t.Errorf("Move(%v, %v): %v, not %v", c.m, c.l, l, c.want)
		}
	}
	all := pointsOf(edges())
	for _, turn := range []int{least, -5, -1, 0, 1, 2, 3, 4, greatest} {
		for _, p := range all {
			m := api.Motion{Turn: turn, By: p}
			for i, got := range Move(m, all) {
				if want := motion.Do(m, all[i]); got != want {
					t.Fatalf("Move(%v) of %v: %v, not %v", m, all[i], got, want)
				}
			}
		}
	}
	if n := len(Move(by(1, 0, 0), rounds(hook(), 100))); n != 600 {
		t.Errorf("Move of 600 corners: %d", n)
	}
}

func TestP601NewMemory(t *testing.T) {
	l := hook()
	Move(by(0, 0, 0), l)[0] = at(9, 9)
	Ring(at(0, 0), at(1, 1))[0] = at(9, 9)
	if !slices.Equal(l, hook()) || Ring(at(0, 0), at(1, 1))[0] != at(0, 0) {
		t.Error("what was told is no new memory")
	}
}

func TestNothingHandedInIsChanged(t *testing.T) {
	for _, l := range [][]api.Point{hook(), eight(2), noFences()["a corner twice"], noFences()["260 corners"]} {
		whole := append(slices.Clone(l), at(77, 78), at(79, 80))
		part, kept := whole[:len(l)], slices.Clone(whole)
		Right(part)
		Area(part)
		Cell(part, at(1, 1))
		Box(part)
		Move(by(1, 2, 3), part)
		if !slices.Equal(whole, kept) {
			t.Errorf("%v became %v", kept, whole)
		}
	}
}

func TestP602Area(t *testing.T) {
	for what, c := range map[string]struct {
		l    []api.Point
		want int
	}{
		"the example":        {Ring(at(0, 0), at(3, 2)), 6},
		"the least one":      {squareOf(1), 1},
		"to the right":       {points(at(0, 0), at(0, 2), at(3, 2), at(3, 0)), -6},
		"west and south":     {Ring(at(-7, -5), at(-4, -1)), 12},
		"a hook":             {hook(), 5},
		"an eight":           {eight(2), 3},
		"an eight of nought": {eight(1), 0},
		"through a corner":   {points(at(0, 0), at(2, 0), at(2, 2), at(0, 2), at(0, 0), at(-1, 0), at(-1, -1), at(0, -1)), 5},
		"twice around":       {rounds(squareOf(3), 2), 18},
		"64 times around":    {rounds(squareOf(3), 64), 576},
		"64 times, right":    {rounds(reversed(squareOf(3)), 64), -576},
		"twice, inwards":     {points(at(0, 0), at(5, 0), at(5, 5), at(1, 5), at(1, 1), at(3, 1), at(3, 3), at(0, 3)), 25 - 2 + 4},
	} {
		for n := range c.l {
			wantArea(t, what, begunAt(c.l, n), c.want)
			wantArea(t, what+", the other way round", reversed(begunAt(c.l, n)), -c.want)
		}
	}
	for _, l := range slices.Concat(fences(0, 3), fences(-9, 9), fences(-far, far), fences(far-9, far), fences(-far, -far+5)) {
		wantArea(t, l, l, surveyed(l))
	}
}

// TestP602AreaIsExact: of the greatest fences each unit counts.
func TestP602AreaIsExact(t *testing.T) {
	all := Ring(at(-far, -far), at(far, far))
	odd := Ring(at(-far, -far), at(far-1, far-1))
	edge := Ring(at(far-1, far-1), at(far, far))
	for _, c := range []struct {
		l    []api.Point
		want int
	}{
		{all, 1 << 42}, {rounds(all, 64), 1 << 48}, {rounds(reversed(all), 64), -1 << 48},
		{odd, 1<<42 - 1<<22 + 1}, {rounds(odd, 63), 63 * (1<<42 - 1<<22 + 1)}, {rounds(reversed(odd), 63), -63 * (1<<42 - 1<<22 + 1)},
		{edge, 1}, {reversed(edge), -1}, {rounds(edge, 64), 64}, {Ring(at(-far, -far), at(-far+1, -far+1)), 1},
		{Ring(at(-far, far-1), at(far, far)), 1 << 21}, {Ring(at(far-1, -far), at(far, far)), 1 << 21},
	} {
		wantArea(t, fmt.Sprint(c.l[:4], " by ", len(c.l)), c.l, c.want)
	}
}

func TestP602AreaOfWhatIsNone(t *testing.T) {
	for what, l := range noFences() {
		wantArea(t, what, l, 0)
		wantArea(t, what+", the other way round", reversed(l), 0)
	}
	for _, n := range beyond() {
		wantArea(t, fmt.Sprint("to X ", n), Ring(at(0, 0), at(n, 3)), 0)
		wantArea(t, fmt.Sprint("to Y ", n), Ring(at(0, 0), at(3, n)), 0)
		wantArea(t, fmt.Sprint("from X ", n), Ring(at(n, 0), at(3, 3)), 0)
		wantArea(t, fmt.Sprint("from Y ", n), Ring(at(0, n), at(3, 3)), 0)
	}
}

func TestP603Cell(t *testing.T) {
	for what, c := range map[string]struct {
		l []api.Point
		// rows are those from Y 3 down to Y -2, each from X -2 on.
		rows [6][6]int
	}{
		"three by two": {Ring(at(0, 0), at(3, 2)), [6][6]int{{}, {}, {0, 0, 1, 1, 1, 0}, {0, 0, 1, 1, 1, 0}, {}, {}}},
		"to the right": {reversed(Ring(at(0, 0), at(3, 2))), [6][6]int{{}, {}, {0, 0, -1, -1, -1, 0}, {0, 0, -1, -1, -1, 0}, {}, {}}},
		"a hook":       {hook(), [6][6]int{{}, {0, 0, 1, 0, 0, 0}, {0, 0, 1, 0, 0, 0}, {0, 0, 1, 1, 1, 0}, {}, {}}},
		"twice around": {rounds(Ring(at(-1, 1), at(1, 2)), 2), [6][6]int{{}, {}, {0, 2, 2, 0, 0, 0}, {}, {}, {}}},
		"an eight":     {eight(2), [6][6]int{{}, {}, {0, 0, 1, 1, 0, 0}, {0, 0, 1, 1, 0, 0}, {0, -1, 0, 0, 0, 0}, {}}},
		"crossing itself": {points(at(-2, -2), at(2, -2), at(2, 0), at(0, 0), at(0, -1), at(3, -1), at(3, 2), at(-2, 2)),
			[6][6]int{{}, {}, {1, 1, 1, 1, 1, 0}, {1, 1, 1, 1, 1, 0}, {1, 1, 2, 2, 1, 0}, {1, 1, 1, 1, 0, 0}}},
		"a little one within": {points(at(-2, -2), at(3, -2), at(3, 3), at(-1, 3), at(-1, -1), at(1, -1), at(1, 1), at(-2, 1)),
			[6][6]int{{}, {0, 1, 1, 1, 1, 0}, {0, 1, 1, 1, 1, 0}, {1, 2, 2, 1, 1, 0}, {1, 2, 2, 1, 1, 0}, {1, 1, 1, 1, 1, 0}}},
	} {
		for i, row := range c.rows {
			for j, want := range row {
				wantCell(t, what, c.l, at(j-2, 3-i), want)
			}
		}
	}
}

// TestP603CellOfAnyNumbers: edges away from the cell count, however far it is, and so they undo one another.
func TestP603CellOfAnyNumbers(t *testing.T) {
	for _, l := range [][]api.Point{
		Ring(at(-far, -far), at(far, far)), Ring(at(-far, -far), at(-far+1, -far+1)), Ring(at(far-1, far-1), at(far, far)),
		Ring(at(0, -far), at(1, far)), Ring(at(-far, 0), at(far, 1)), rounds(Ring(at(-far, -far), at(far, far)), 64),
	} {
		for _, p := range pointsOf(append(edges(), -far-3, far-2)) {
			want := 0
			if l[0].X <= p.X && p.X < l[2].X && l[0].Y <= p.Y && p.Y < l[2].Y {
				want = len(l) / 4
			}
			wantCell(t, fmt.Sprint(l[:4], " by ", len(l)), l, p, want)
			wantCell(t, fmt.Sprint(l[:4], " by ", len(l), ", the other way round"), reversed(l), p, -want)
		}
	}
	for _, l := range fences(-far, far) {
		for _, p := range pointsOf(append(edges(), -far/2, far/2)) {
			wantCell(t, l, l, p, windings(l, p))
		}
		// Cells about the corners.
		for _, c := range l {
			for _, p := range points(c, at(c.X-1, c.Y), at(c.X, c.Y-1), at(c.X-1, c.Y-1)) {
				wantCell(t, l, l, p, windings(l, p))
			}
		}
	}
}

func TestP603CellOfSmallFences(t *testing.T) {
	for _, l := range slices.Concat(fences(-2, 3), fences(0, 2), fences(-9, 9)) {
		for x := -11; x <= 11; x++ {
			for y := -11; y <= 11; y++ {
				wantCell(t, l, l, at(x, y), windings(l, at(x, y)))
			}
		}
	}
}

func TestP603CellOfWhatIsNone(t *testing.T) {
	for what, l := range noFences() {
		wantNone(t, what, l)
		wantNone(t, what+", the other way round", reversed(l))
	}
	for _, n := range beyond() {
		for _, l := range [][]api.Point{Ring(at(0, 0), at(n, 3)), Ring(at(0, 0), at(3, n)), Ring(at(n, 0), at(3, 3)), Ring(at(0, n), at(3, 3))} {
			wantNone(t, l, l)
		}
	}
}

// smallFences are all of 4 and 6 corners of a little floor, and some with more corners of a greater one.
func smallFences() [][]api.Point {
	var all [][]api.Point
	for _, n := range []int{4, 6} {
		lists(n, pointsOf([]int{-1, 0, 2}), func(l []api.Point) {
			if isFence(l) {
				all = append(all, slices.Clone(l))
			}
		})
	}
	return slices.Concat(all, fences(-2, 2), fences(-20, 20))
}

func eachCellWithin(l []api.Point, tell func(p api.Point)) {
	low, high := Box(l)
	for x := low.X; x < high.X; x++ {
		for y := low.Y; y < high.Y; y++ {
			tell(at(x, y))
		}
	}
}

func TestP604CellsAreTheArea(t *testing.T) {
	big := [][]api.Point{Ring(at(0, 0), at(300, 200)), rounds(Ring(at(-500, 7), at(500, 19)), 64), reversed(Ring(at(far-50, -far), at(far, -far+60)))}
	for _, l := range slices.Concat(smallFences(), big) {
		together := 0
		eachCellWithin(l, func(p api.Point) { together += Cell(l, p) })
		wantArea(t, l, l, together)
	}
}

func TestP604TheOtherWayRound(t *testing.T) {
	for _, l := range slices.Concat(smallFences(), fences(-far, far)) {
		back := reversed(l)
		wantRight(t, back, back, true)
		wantArea(t, back, back, -Area(l))
	}
	for _, l := range smallFences() {
		back := reversed(l)
		eachCellWithin(l, func(p api.Point) { wantCell(t, back, back, p, -Cell(l, p)) })
	}
}

func TestP604AMotionLeavesTheArea(t *testing.T) {
	numbers := []int{-far + 500, -7, 0, 1, 500, far - 500}
	for _, l := range slices.Concat(smallFences(), fences(-500, 500)) {
		area := Area(l)
		for turn := -4; turn <= 4; turn++ {
			for _, p := range pointsOf(numbers) {
				moved := Move(api.Motion{Turn: turn, By: p}, l)
				if !Right(moved) || Area(moved) != area {
					t.Fatalf("%v turned %d, by %v: %v, Area %d, not %d", l, turn, p, Right(moved), Area(moved), area)
				}
			}
		}
	}
	// What a motion brings beyond Far is no fence any more.
	for turn := range 4 {
		wantNone(t, fmt.Sprint("turned ", turn), Move(by(turn, far, 0), Ring(at(-3, -3), at(3, 3))))
		wantNone(t, fmt.Sprint("turned ", turn), Move(by(turn, 0, -far), Ring(at(-3, -3), at(3, 3))))
	}
}
