package plan

import (
	"fmt"
	"math"
	"math/rand"
	"slices"
	"testing"

	"tallyman/api"
	"tallyman/motion"
)

const (
	least    = math.MinInt
	greatest = math.MaxInt
	far      = 1048576
	wide     = 1000
)

func at(x, y int) api.Point {
	return api.Point{X: x, Y: y}
}

func aisle(id, x, y, toX, toY int) api.Aisle {
	return api.Aisle{ID: id, Low: at(x, y), High: at(toX, toY)}
}

func aisles(l ...api.Aisle) []api.Aisle {
	return l
}

func points(l ...api.Point) []api.Point {
	return l
}

func by(turn, x, y int) api.Motion {
	return api.Motion{Turn: turn, By: at(x, y)}
}

func reversed[T any](l []T) []T {
	back := slices.Clone(l)
	slices.Reverse(back)
	return back
}

func with(l []api.Aisle, n int, a api.Aisle) []api.Aisle {
	changed := slices.Clone(l)
	changed[n] = a
	return changed
}

// rack is a plan of so many aisles, with IDs from 1 on, each one step beside the one ahead.
func rack(n int) []api.Aisle {
	var l []api.Aisle
	for i := range n {
		l = append(l, aisle(i+1, 2*i-32, -40, 2*i-32, 40))
	}
	return l
}

// little is a plan whose aisles lie side by side without a point between them.
func little() []api.Aisle {
	return aisles(aisle(3, 0, 0, 1, 1), aisle(4, 2, 0, 2, 1), aisle(9, 0, 2, 2, 3), aisle(40, -2, -2, -1, 3))
}

// beyond are numbers that no part of a corner of a plan may be, such too as a float, or an int of fewer bits, takes for others.
func beyond() []int {
	return []int{least, least + 1, -1<<53 - 1, -1<<32 - 1, -1 << 32, -far - 1, -far, -1 << 16, -wide - 2, -wide - 1, wide + 1, wide + 2, 1 << 16, far, far + 1, 1 << 32, 1<<32 + 1, 1<<53 + 1, greatest - 1, greatest}
}

// edges are numbers about Wide, and beyond.
func edges() []int {
	return append(beyond(), -wide, -wide+1, -7, -1, 0, 1, 2, 200, wide-1, wide)
}

func pointsOf(numbers []int) []api.Point {
	var l []api.Point
	for _, x := range numbers {
		for _, y := range numbers {
			l = append(l, at(x, y))
		}
	}
	return l
}

func upTo(low, high int) []int {
	var l []int
	for n := low; n <= high; n++ {
		l = append(l, n)
	}
	return l
}

// aislesOf are all with these parts, those without a point too.
func aislesOf(numbers []int) []api.Aisle {
	var l []api.Aisle
	for _, low := range pointsOf(numbers) {
		for _, high := range pointsOf(numbers) {
			l = append(l, api.Aisle{ID: len(l) + 1, Low: low, High: high})
		}
	}
	return l
}

// has asks as the document's words do.
func has(a api.Aisle, p api.Point) bool {
	return a.Low.X <= p.X && p.X <= a.High.X && a.Low.Y <= p.Y && p.Y <= a.High.Y
}

func hasAny(a api.Aisle, l []api.Point) bool {
	return slices.ContainsFunc(l, func(p api.Point) bool { return has(a, p) })
}

// gone is a Route by whole numbers.
func gone(p, q api.Point, how int) []api.Point {
	clip := func(n int) int { return max(-wide, min(n, wide)) }
	x, y, toX, toY := clip(p.X), clip(p.Y), clip(q.X), clip(q.Y)
	l := points(at(x, y))
	alongX := func() {
		for x != toX {
			if x < toX {
				x++
			} else {
				x--
			}
			l = append(l, at(x, y))
		}
	}
	alongY := func() {
		for y != toY {
			if y < toY {
				y++
			} else {
				y--
			}
			l = append(l, at(x, y))
		}
	}
	if how == 1 {
		alongY()
		alongX()
	} else {
		alongX()
		alongY()
	}
	return l
}

// goneThrough asks of each point, where Cross asks of blocks.
func goneThrough(l []api.Aisle, p, q api.Point, how int) []int {
	found := map[int]bool{}
	way := gone(p, q, how)
	for _, a := range l {
		if hasAny(a, way) {
			found[a.ID] = true
		}
	}
	var ids []int
	for id := range found {
		ids = append(ids, id)
	}
	slices.Sort(ids)
	return ids
}

// scattered are some aisles of a floor, with any IDs, meeting one another, some of them without a point.
func scattered(r *rand.Rand, n, reach int) []api.Aisle {
	var l []api.Aisle
	for range n {
		x, y := r.Intn(2*reach+1)-reach, r.Intn(2*reach+1)-reach
		l = append(l, aisle(r.Intn(12)-3, x, y, x+r.Intn(4)-1, y+r.Intn(4)-1))
	}
	return l
}

// plans are some with parts of at most reach without their sign.
func plans(reach int) [][]api.Aisle {
	r := rand.New(rand.NewSource(7))
	all := [][]api.Aisle{nil, little(), rack(32)}
	for n := range 33 {
		var l []api.Aisle
		for tries := 0; tries < 400 && len(l) < n; tries++ {
			low := at(r.Intn(2*reach+1)-reach, r.Intn(2*reach+1)-reach)
			a := api.Aisle{Low: low, High: at(min(reach, low.X+r.Intn(reach/4)), min(reach, low.Y+r.Intn(reach/4)))}
			apart := true
			for _, b := range l {
				apart = apart && (a.High.X < b.Low.X || b.High.X < a.Low.X || a.High.Y < b.Low.Y || b.High.Y < a.Low.Y)
			}
			if apart {
				a.ID = 1 + 30*len(l) + r.Intn(30)
				l = append(l, a)
			}
		}
		all = append(all, l)
	}
	return all
}

func wantRight(t *testing.T, what any, l []api.Aisle, want bool) {
	t.Helper()
	if got := Right(l); got != want {
		t.Errorf("Right, %v: %v, not %v", what, got, want)
	}
}

func wantMeet(t *testing.T, a, b api.Aisle, want bool) {
	t.Helper()
	if got := Meet(a, b); got != want {
		t.Errorf("Meet(%v, %v): %v, not %v", a, b, got, want)
	}
	if got := Meet(b, a); got != want {
		t.Errorf("Meet(%v, %v): %v, not %v", b, a, got, want)
	}
}

func wantAt(t *testing.T, l []api.Aisle, p api.Point, id int, ok bool) {
	t.Helper()
	if n, found := At(l, p); n != id || found != ok {
		t.Errorf("At(%v, %v): %d %v, not %d %v", l, p, n, found, id, ok)
	}
}

func wantRoute(t *testing.T, p, q api.Point, how int, want []api.Point) {
	t.Helper()
	if l := Route(p, q, how); !slices.Equal(l, want) {
		t.Errorf("Route(%v, %v, %d): %v, not %v", p, q, how, l, want)
	}
}

func wantCross(t *testing.T, l []api.Aisle, p, q api.Point, how int, want ...int) {
	t.Helper()
	if ids := Cross(l, p, q, how); !slices.Equal(ids, want) {
		t.Errorf("Cross(%v, %v, %v, %d): %v, not %v", l, p, q, how, ids, want)
	}
}

func wantMoved(t *testing.T, m api.Motion, l, want []api.Aisle) {
	t.Helper()
	if got := Moved(m, l); !slices.Equal(got, want) {
		t.Errorf("Moved(%v, %v): %v, not %v", m, l, got, want)
	}
}

func TestP701RightOfPlans(t *testing.T) {
	for what, l := range map[string][]api.Aisle{
		"nil": nil, "without an aisle": {}, "a point": aisles(aisle(1, 0, 0, 0, 0)), "side by side": little(),
		"the least ID":              aisles(aisle(1, 2, 0, 2, 5)),
		"the greatest ID":           aisles(aisle(999, 2, 0, 2, 5)),
		"the least and greatest ID": aisles(aisle(1, 2, 0, 2, 5), aisle(999, 3, 0, 3, 5)),
		"IDs side by side":          aisles(aisle(998, 2, 0, 2, 5), aisle(999, 3, 0, 3, 5)),
		"the whole floor":           aisles(aisle(5, -wide, -wide, wide, wide)),
		"the four corners":          aisles(aisle(1, -wide, -wide, -wide, -wide), aisle(2, wide, wide, wide, wide), aisle(3, -wide, wide, -wide, wide), aisle(4, wide, -wide, wide, -wide)),
		"along two sides":           aisles(aisle(1, -wide, -wide, wide, -wide), aisle(2, -wide, -wide+1, -wide, wide)),
		"places that fall":          aisles(aisle(1, 9, 9, 9, 9), aisle(2, 5, 5, 6, 6), aisle(3, 0, 0, 0, 0)),
		"corner to corner":          aisles(aisle(1, 0, 0, 1, 1), aisle(2, 2, 2, 3, 3), aisle(3, 0, 2, 1, 3), aisle(4, 2, 0, 3, 1)),
		"one X, apart in Y":         aisles(aisle(1, 0, 0, 5, 1), aisle(2, 0, 2, 5, 3)),
		"one Y, apart in X":         aisles(aisle(1, 0, 0, 1, 5), aisle(2, 2, 0, 3, 5)),
		"31 aisles":                 rack(31),
		"32 aisles":                 rack(32),
	} {
		wantRight(t, what, l, true)
	}
	for _, l := range slices.Concat(plans(40), plans(wide)) {
		wantRight(t, l, l, true)
	}
}

func TestP701RightOfWhatIsNone(t *testing.T) {
	for what, l := range map[string][]api.Aisle{
		"ID 0":                       aisles(aisle(0, 2, 0, 2, 5)),
		"ID 0 ahead":                 aisles(aisle(0, 2, 0, 2, 5), aisle(1, 3, 0, 3, 5)),
		"ID below 0":                 aisles(aisle(-1, 2, 0, 2, 5)),
		"the least int":              aisles(aisle(least, 2, 0, 2, 5), aisle(1, 3, 0, 3, 5)),
		"ID 1000":                    aisles(aisle(1000, 2, 0, 2, 5)),
		"ID 1000 behind":             aisles(aisle(999, 2, 0, 2, 5), aisle(1000, 3, 0, 3, 5)),
		"ID 65536 and 1":             aisles(aisle(1<<16+1, 2, 0, 2, 5)),
		"the greatest int":           aisles(aisle(greatest, 2, 0, 2, 5)),
		"an ID twice":                aisles(aisle(4, 2, 0, 2, 5), aisle(4, 3, 0, 3, 5)),
		"an ID twice, not the first": aisles(aisle(1, 0, 0, 0, 0), aisle(4, 2, 0, 2, 5), aisle(4, 3, 0, 3, 5)),
		"IDs that fall":              aisles(aisle(5, 2, 0, 2, 5), aisle(4, 3, 0, 3, 5)),
		"IDs that fall at last":      aisles(aisle(5, 2, 0, 2, 5), aisle(7, 3, 0, 3, 5), aisle(6, 4, 0, 4, 5)),
		"an ID comes again":          aisles(aisle(5, 2, 0, 2, 5), aisle(7, 3, 0, 3, 5), aisle(5, 4, 0, 4, 5)),
		"Low above High in X":        aisles(aisle(4, 3, 0, 2, 5)),
		"Low above High in Y":        aisles(aisle(4, 2, 6, 2, 5)),
		"Low above High":             aisles(aisle(4, wide, wide, -wide, -wide)),
		"the same aisle twice":       aisles(aisle(4, 2, 0, 2, 5), aisle(5, 2, 0, 2, 5)),
		"meeting in a point":         aisles(aisle(4, 0, 0, 2, 5), aisle(5, 2, 5, 3, 6)),
		"meeting in the other point": aisles(aisle(4, 0, 0, 2, 5), aisle(5, -3, -6, 0, 0)),
		"meeting in a side":          aisles(aisle(4, 0, 0, 2, 5), aisle(5, 2, 0, 4, 5)),
		"crossing":                   aisles(aisle(4, 0, 2, 9, 3), aisle(5, 4, -3, 5, 9)),
		"one within the other":       aisles(aisle(4, 0, 0, 9, 9), aisle(5, 4, 4, 4, 4)),
		"one around the other":       aisles(aisle(4, 4, 4, 4, 4), aisle(5, 0, 0, 9, 9)),
		"33 aisles":                  rack(33),
		"64 aisles":                  rack(64),
		"999 points":                 manyPoints(),
	} {
		wantRight(t, what, l, false)
	}
	for _, n := range beyond() {
		for what, a := range map[string]api.Aisle{
			"Low's X": aisle(2, n, 0, 2, 5), "Low's Y": aisle(2, 2, n, 2, 5), "High's X": aisle(2, 2, 0, n, 5), "High's Y": aisle(2, 2, 0, 2, n),
			"both Xs": aisle(2, n, 0, n, 5), "both Ys": aisle(2, 0, n, 5, n), "all": aisle(2, n, n, n, n),
		} {
			wantRight(t, fmt.Sprint(what, " ", n), aisles(a), false)
			wantRight(t, fmt.Sprint(what, " ", n, " in the middle"), aisles(aisle(1, -9, -9, -9, -9), a, aisle(3, -9, -8, -9, -8)), false)
		}
	}
}

// manyPoints has all IDs, and nothing wrong but that it is too long.
func manyPoints() []api.Aisle {
	var l []api.Aisle
	for id := 1; id <= 999; id++ {
		l = append(l, aisle(id, id, 0, id, 0))
	}
	return l
}

// TestP701RightOfEachTwo: of 32 aisles any two may be those that meet, any one may be wrong.
func TestP701RightOfEachTwo(t *testing.T) {
	for i, a := range rack(32) {
		for j, b := range rack(32) {
			if i == j {
				continue
			}
			wantRight(t, fmt.Sprint(i, " in ", j), with(rack(32), i, aisle(a.ID, b.Low.X, 7, b.Low.X, 7)), false)
			wantRight(t, fmt.Sprint(i, " beside ", j), with(rack(32), i, aisle(a.ID, b.Low.X, 41, b.Low.X, 41)), true)
		}
		wantRight(t, fmt.Sprint(i, " without a point"), with(rack(32), i, aisle(a.ID, a.Low.X, 1, a.Low.X, 0)), false)
		wantRight(t, fmt.Sprint(i, " too far"), with(rack(32), i, aisle(a.ID, a.Low.X, 0, a.Low.X, wide+1)), false)
		wantRight(t, fmt.Sprint(i, " as far as may be"), with(rack(32), i, aisle(a.ID, a.Low.X, 0, a.Low.X, wide)), true)
		wantRight(t, fmt.Sprint(i, " without an ID"), with(rack(32), i, aisle(0, a.Low.X, 0, a.Low.X, 0)), false)
	}
}

// TestP701RightOfAll: all lists of two aisles of a little floor.
func TestP701RightOfAll(t *testing.T) {
	floor := pointsOf(upTo(0, 2))
	for _, a := range aislesOf(upTo(0, 2)) {
		wantRight(t, a, aisles(a), hasAny(a, floor))
		for _, b := range aislesOf(upTo(0, 2)) {
			a.ID, b.ID = 1, 2
			apart := !slices.ContainsFunc(floor, func(p api.Point) bool { return has(a, p) && has(b, p) })
			wantRight(t, aisles(a, b), aisles(a, b), apart && hasAny(a, floor) && hasAny(b, floor))
		}
	}
}

func TestP701Meet(t *testing.T) {
	for _, c := range []struct {
		a, b api.Aisle
		want bool
	}{
		{aisle(3, 2, 0, 2, 5), aisle(7, 4, 0, 5, 5), false}, {aisle(3, 2, 0, 2, 5), aisle(3, 2, 0, 2, 5), true},
		{aisle(1, 0, 0, 2, 2), aisle(2, 2, 2, 3, 3), true}, {aisle(1, 0, 0, 2, 2), aisle(2, 3, 3, 4, 4), false},
		{aisle(1, 0, 0, 2, 2), aisle(2, 2, 3, 3, 4), false}, {aisle(1, 0, 0, 2, 2), aisle(2, 3, 2, 4, 3), false},
		{aisle(1, 0, 0, 9, 0), aisle(2, 4, -4, 4, 4), true}, {aisle(1, 0, 0, 9, 9), aisle(2, 4, 4, 5, 5), true},
		// Those without a point lie within others, and have none with them.
		{aisle(1, 0, 0, 9, 9), aisle(2, 5, 4, 4, 5), false}, {aisle(1, 0, 0, 9, 9), aisle(2, 4, 5, 5, 4), false},
		{aisle(1, 0, 0, 9, 9), aisle(2, 9, 9, 0, 0), false}, {aisle(1, 5, 4, 4, 5), aisle(1, 5, 4, 4, 5), false},
		// As they are, however far.
		{aisle(1, least, least, greatest, greatest), aisle(2, greatest, least, greatest, least), true},
		{aisle(1, least, least, greatest, greatest), aisle(2, greatest, greatest, least, least), false},
		{aisle(1, least, 0, 0, 0), aisle(2, 0, 0, greatest, 0), true}, {aisle(1, least, 0, -1, 0), aisle(2, 0, 0, greatest, 0), false},
		{aisle(1, 1<<53, 0, 1<<53, 0), aisle(2, 1<<53+1, 0, 1<<53+1, 0), false}, {aisle(1, 0, wide+1, 0, wide+1), aisle(2, 0, wide+2, 0, wide+2), false},
		{aisle(1, 0, far+1, 0, far+1), aisle(2, 0, far+2, 0, far+2), false}, {aisle(1, far+7, 0, far+7, 0), aisle(2, far+7, 0, far+7, 0), true},
		{aisle(1, 1<<32, 0, 1<<32, 0), aisle(2, 0, 0, 0, 0), false}, {api.Aisle{}, api.Aisle{}, true},
	} {
		wantMeet(t, c.a, c.b, c.want)
	}
	floor := pointsOf(upTo(0, 3))
	for _, a := range aislesOf(upTo(0, 3)) {
		for _, b := range aislesOf(upTo(0, 3)) {
			want := slices.ContainsFunc(floor, func(p api.Point) bool { return has(a, p) && has(b, p) })
			wantMeet(t, a, b, want)
		}
	}
}

func TestP701At(t *testing.T) {
	l := aisles(aisle(3, 2, 0, 2, 5), aisle(7, 4, 0, 5, 5))
	for p, id := range map[api.Point]int{
		at(2, 0): 3, at(2, 5): 3, at(2, 3): 3, at(4, 0): 7, at(5, 5): 7, at(4, 5): 7, at(5, 0): 7,
		at(2, 6): 0, at(2, -1): 0, at(1, 3): 0, at(3, 3): 0, at(6, 3): 0, at(5, 6): 0, at(4, -1): 0,
	} {
		wantAt(t, l, p, id, id != 0)
	}
	wantAt(t, nil, at(0, 0), 0, false)
	wantAt(t, aisles(), at(0, 0), 0, false)
	// Any list: the first one in the list, whatever its ID.
	wantAt(t, aisles(aisle(9, 0, 0, 4, 4), aisle(2, 1, 1, 2, 2)), at(1, 1), 9, true)
	wantAt(t, aisles(aisle(2, 1, 1, 2, 2), aisle(9, 0, 0, 4, 4)), at(1, 1), 2, true)
	wantAt(t, aisles(aisle(2, 3, 3, 0, 0), aisle(9, 0, 0, 4, 4)), at(1, 1), 9, true)
	wantAt(t, aisles(aisle(0, 1, 1, 2, 2), aisle(9, 0, 0, 4, 4)), at(1, 1), 0, true)
	wantAt(t, aisles(aisle(least, 1, 1, 2, 2)), at(2, 1), least, true)
	wantAt(t, aisles(aisle(greatest, 1, 1, 2, 2)), at(2, 1), greatest, true)
	wantAt(t, rack(100), at(2*99-32, 40), 100, true)
	wantAt(t, rack(100), at(2*99-32, 41), 0, false)
	// The point as it is, not fixed.
	wantAt(t, aisles(aisle(1, -wide, -wide, wide, wide)), at(wide, wide), 1, true)
	for _, n := range beyond() {
		whole := aisles(aisle(1, -wide, -wide, wide, wide))
		wantAt(t, whole, at(n, 0), 0, false)
		wantAt(t, whole, at(0, n), 0, false)
		wantAt(t, append(whole, aisle(2, n, 0, n, 0)), at(n, 0), 2, true)
		wantAt(t, append(whole, aisle(2, 0, n, 0, n)), at(0, n), 2, true)
	}
	wantAt(t, aisles(aisle(1, 1<<53, 0, 1<<53, 0), aisle(2, 1<<53+1, 0, 1<<53+1, 0)), at(1<<53+1, 0), 2, true)
	wantAt(t, aisles(aisle(1, least, least, greatest, greatest)), at(least, greatest), 1, true)
}

func TestP701AtOfAll(t *testing.T) {
	r := rand.New(rand.NewSource(1))
	for range 300 {
		l := scattered(r, r.Intn(9), 3)
		for _, p := range pointsOf(upTo(-6, 6)) {
			i := slices.IndexFunc(l, func(a api.Aisle) bool { return has(a, p) })
			if i < 0 {
				wantAt(t, l, p, 0, false)
			} else {
				wantAt(t, l, p, l[i].ID, true)
			}
		}
	}
}

func TestP702Route(t *testing.T) {
	for _, c := range []struct {
		p, q api.Point
		how  int
		want []api.Point
	}{
		{at(0, 1), at(2, 2), 0, points(at(0, 1), at(1, 1), at(2, 1), at(2, 2))},
		{at(0, 1), at(2, 2), 1, points(at(0, 1), at(0, 2), at(1, 2), at(2, 2))},
		{at(0, 1), at(1, 0), 1, points(at(0, 1), at(0, 0), at(1, 0))},
		{at(2, 2), at(0, 1), 0, points(at(2, 2), at(1, 2), at(0, 2), at(0, 1))},
		{at(2, 2), at(0, 1), 1, points(at(2, 2), at(2, 1), at(1, 1), at(0, 1))},
		{at(-1, 1), at(1, -1), 0, points(at(-1, 1), at(0, 1), at(1, 1), at(1, 0), at(1, -1))},
		{at(-1, 1), at(1, -1), 1, points(at(-1, 1), at(-1, 0), at(-1, -1), at(0, -1), at(1, -1))},
		{at(0, 0), at(2, 0), 0, points(at(0, 0), at(1, 0), at(2, 0))}, {at(0, 0), at(2, 0), 1, points(at(0, 0), at(1, 0), at(2, 0))},
		{at(0, 0), at(0, -2), 0, points(at(0, 0), at(0, -1), at(0, -2))}, {at(0, 0), at(0, -2), 1, points(at(0, 0), at(0, -1), at(0, -2))},
		{at(5, 6), at(5, 6), 0, points(at(5, 6))}, {at(5, 6), at(5, 6), 1, points(at(5, 6))},
		// A part beyond counts as the nearest number.
		{at(wide-1, 0), at(wide+1, 1), 0, points(at(wide-1, 0), at(wide, 0), at(wide, 1))},
		{at(-wide-7, 0), at(-wide+1, -1), 1, points(at(-wide, 0), at(-wide, -1), at(-wide+1, -1))},
		{at(least, greatest), at(least, greatest), 0, points(at(-wide, wide))}, {at(wide+1, 3), at(greatest, 3), 1, points(at(wide, 3))},
		{at(far, -far), at(wide-1, -wide+1), 0, points(at(wide, -wide), at(wide-1, -wide), at(wide-1, -wide+1))},
	} {
		wantRoute(t, c.p, c.q, c.how, c.want)
	}
	// Just 1 is the other how.
	for _, how := range []int{least, -2, -1, 2, 3, 1<<32 + 1, greatest} {
		wantRoute(t, at(0, 1), at(2, 2), how, points(at(0, 1), at(1, 1), at(2, 1), at(2, 2)))
	}
}

func TestP702RouteOfAll(t *testing.T) {
	for _, p := range pointsOf(upTo(-3, 3)) {
		for _, q := range pointsOf(upTo(-3, 3)) {
			for _, how := range []int{-1, 0, 1, 2} {
				wantRoute(t, p, q, how, gone(p, q, how))
			}
		}
	}
	few := pointsOf([]int{least, -wide - 1, -wide, 0, 7, wide, wide + 1, greatest})
	for _, p := range few {
		for _, q := range few {
			for how := range 2 {
				wantEnds(t, p, q, how)
			}
		}
	}
	if n := len(Route(at(-wide, -wide), at(wide, wide), 0)); n != 4001 {
		t.Errorf("the longest Route: %d", n)
	}
}

// wantEnds tells no whole Route when it fails, as that is long.
func wantEnds(t *testing.T, p, q api.Point, how int) {
	t.Helper()
	got, want := Route(p, q, how), gone(p, q, how)
	if !slices.Equal(got, want) {
		t.Fatalf("Route(%v, %v, %d): %d points, not %d, or others", p, q, how, len(got), len(want))
	}
}

func TestP702Cross(t *testing.T) {
	l := aisles(aisle(3, 2, 0, 2, 5), aisle(7, 4, 0, 5, 5))
	// The example.
	wantCross(t, l[:1], at(0, 1), at(4, 1), 0, 3)
	wantCross(t, l, at(0, 1), at(4, 7), 0, 3, 7)
	wantCross(t, l, at(0, 1), at(4, 7), 1)
	wantCross(t, l, at(4, 7), at(0, 1), 0)
	wantCross(t, l, at(4, 7), at(0, 1), 1, 3, 7)
	wantCross(t, l, at(0, 6), at(3, 6), 0)
	wantCross(t, l, at(0, 5), at(3, 5), 0, 3)
	wantCross(t, l, at(0, -1), at(9, -1), 1)
	wantCross(t, l, at(0, 0), at(9, 0), 1, 3, 7)
	// A way ahead of the aisle, behind it, to it, from it, within it.
	wantCross(t, l, at(0, 1), at(1, 1), 0)
	wantCross(t, l, at(6, 1), at(9, 1), 0)
	wantCross(t, l, at(0, 1), at(2, 1), 0, 3)
	wantCross(t, l, at(5, 1), at(9, 1), 0, 7)
	wantCross(t, l, at(4, 2), at(5, 3), 0, 7)
	wantCross(t, l, at(2, 2), at(2, 2), 0, 3)
	wantCross(t, l, at(3, 2), at(3, 2), 1)
	// Its corner alone.
	wantCross(t, aisles(aisle(5, 4, 1, 4, 1)), at(0, 1), at(4, 7), 0, 5)
	wantCross(t, aisles(aisle(5, 4, 1, 4, 1)), at(0, 1), at(4, 7), 1)
	wantCross(t, aisles(aisle(5, 0, 7, 0, 7)), at(0, 1), at(4, 7), 1, 5)
	// Within the block of both ends, but not on the way.
	wantCross(t, aisles(aisle(5, 1, 2, 3, 6)), at(0, 1), at(4, 7), 0)
	wantCross(t, aisles(aisle(5, 1, 2, 3, 6)), at(0, 1), at(4, 7), 1)
	wantCross(t, nil, at(0, 0), at(9, 9), 0)
	wantCross(t, aisles(), at(0, 0), at(9, 9), 1)
	for _, how := range []int{least, -1, 2, 3, greatest} {
		wantCross(t, l, at(0, 1), at(4, 7), how, 3, 7)
		wantCross(t, l, at(4, 7), at(0, 1), how)
	}
}

func TestP702CrossOfAnyList(t *testing.T) {
	// IDs in any order, and more than once, come out rising, each once.
	wantCross(t, aisles(aisle(9, 1, 0, 1, 0), aisle(4, 2, 0, 2, 0), aisle(9, 3, 0, 3, 0), aisle(-6, 4, 0, 4, 0), aisle(0, 4, 0, 4, 0), aisle(4, 5, 0, 5, 0)), at(0, 0), at(9, 0), 0, -6, 0, 4, 9)
	wantCross(t, aisles(aisle(9, 1, 1, 1, 1), aisle(9, 3, 0, 3, 0)), at(0, 0), at(9, 0), 0, 9)
	wantCross(t, aisles(aisle(greatest, 1, 0, 1, 0), aisle(least, 2, 0, 2, 0)), at(0, 0), at(9, 0), 0, least, greatest)
	// Aisles that meet, and such without a point.
	wantCross(t, aisles(aisle(1, 0, 0, 9, 9), aisle(2, 3, 0, 3, 0), aisle(3, 4, 0, 3, 0), aisle(4, 3, 1, 3, 0), aisle(5, 9, 9, 0, 0)), at(0, 0), at(5, 0), 0, 1, 2)
	// More than a plan has.
	var all []int
	for id := 1; id <= 100; id++ {
		all = append(all, id)
	}
	wantCross(t, rack(100), at(-wide, 0), at(wide, 0), 0, all...)
	wantCross(t, reversed(rack(100)), at(-wide, 0), at(wide, 0), 0, all...)
	// Points count as the nearest ones within Wide, aisles as they are.
	wantCross(t, aisles(aisle(1, wide, 5, wide, 5)), at(wide+1, 0), at(wide+1, 9), 0, 1)
	wantCross(t, aisles(aisle(1, wide, wide, wide, wide)), at(0, greatest), at(greatest, 0), 0, 1)
	wantCross(t, aisles(aisle(1, -wide, -wide, -wide, -wide)), at(least, least), at(least, least), 1, 1)
	for _, n := range beyond() {
		wantCross(t, aisles(aisle(1, n, 0, n, 9)), at(n, 0), at(n, 9), 0)
		wantCross(t, aisles(aisle(1, 0, n, 9, n)), at(0, n), at(9, n), 0)
		wantCross(t, aisles(aisle(1, 0, 0, n, 0), aisle(2, n, 0, 0, 0)), at(0, 0), at(n, 0), 1, greaterOne(n))
	}
	wantCross(t, aisles(aisle(1, least, least, greatest, greatest)), at(3, 4), at(3, 4), 0, 1)
	wantCross(t, aisles(aisle(1, wide+1, least, greatest, greatest)), at(3, 4), at(greatest, greatest), 0)
	wantCross(t, aisles(aisle(1, least, least, -wide-1, greatest)), at(3, 4), at(least, greatest), 0)
}

// greaterOne is the ID of that of the aisles from 0 to n, and from n to 0, that has points.
func greaterOne(n int) int {
	if n > 0 {
		return 1
	}
	return 2
}

func TestP702CrossIsOfTheRoute(t *testing.T) {
	r := rand.New(rand.NewSource(2))
	for range 60 {
		l := scattered(r, r.Intn(10), 4)
		for _, p := range pointsOf(upTo(-2, 2)) {
			for _, q := range pointsOf([]int{-5, -2, 0, 1, 4}) {
				for how := range 3 {
					wantCross(t, l, p, q, how, goneThrough(l, p, q, how)...)
				}
			}
		}
	}
	for _, l := range plans(wide) {
		for range 20 {
			p, q := at(r.Intn(2500)-1250, r.Intn(2500)-1250), at(r.Intn(2500)-1250, r.Intn(2500)-1250)
			for how := range 2 {
				wantCross(t, l, p, q, how, goneThrough(l, p, q, how)...)
			}
		}
	}
}

func TestP703Moved(t *testing.T) {
	for _, c := range []struct {
		m       api.Motion
		l, want []api.Aisle
	}{
		{by(1, 0, 0), aisles(aisle(3, 2, 0, 2, 5)), aisles(aisle(3, -5, 2, 0, 2))},
		{by(2, 0, 0), aisles(aisle(3, 2, 0, 4, 5)), aisles(aisle(3, -4, -5, -2, 0))},
		{by(3, 0, 0), aisles(aisle(3, 2, 0, 4, 5)), aisles(aisle(3, 0, -4, 5, -2))},
		{by(-1, 10, 20), aisles(aisle(3, 2, 0, 4, 5)), aisles(aisle(3, 10, 16, 15, 18))},
		{by(0, 1, -1), little(), aisles(aisle(3, 1, -1, 2, 0), aisle(4, 3, -1, 3, 0), aisle(9, 1, 1, 3, 2), aisle(40, -1, -3, 0, 2))},
		{by(0, 0, 0), little(), little()}, {by(4, 0, 0), reversed(little()), reversed(little())},
		{by(2, 5, 5), nil, nil}, {by(2, 5, 5), aisles(), nil},
		// Any list, in its order, with its IDs.
		{by(0, 1, 1), aisles(aisle(5, 0, 0, 1, 1), aisle(least, 0, 0, 1, 1), aisle(5, 2, 2, 2, 2)), aisles(aisle(5, 1, 1, 2, 2), aisle(least, 1, 1, 2, 2), aisle(5, 3, 3, 3, 3))},
		// The least parts of both corners, whichever is Low.
		{by(0, 0, 0), aisles(aisle(5, 3, 4, 1, 2)), aisles(aisle(5, 1, 2, 3, 4))},
		{by(0, 0, 0), aisles(aisle(5, 3, 1, 1, 2)), aisles(aisle(5, 1, 1, 3, 2))},
		{by(1, 0, 0), aisles(aisle(5, 3, 1, 1, 2)), aisles(aisle(5, -2, 1, -1, 3))},
		// Fixed as a motion fixes, and not within Wide.
		{by(0, 1, 1), aisles(aisle(5, wide, wide, wide, wide)), aisles(aisle(5, wide+1, wide+1, wide+1, wide+1))},
		{by(0, 1, 1), aisles(aisle(5, least, -far-1, far+1, greatest)), aisles(aisle(5, -far+1, -far+1, far+1, far+1))},
		{by(0, greatest, least), aisles(aisle(5, 0, 0, far, far)), aisles(aisle(5, far, -far, 2*far, 0))},
	} {
		wantMoved(t, c.m, c.l, c.want)
	}
	wantMoved(t, by(4, 0, 0), rack(100), rack(100))
}

func TestP703MovedOfAll(t *testing.T) {
	var l []api.Aisle
	r := rand.New(rand.NewSource(3))
	all := pointsOf(edges())
	for range 400 {
		l = append(l, api.Aisle{ID: r.Int() - r.Int(), Low: all[r.Intn(len(all))], High: all[r.Intn(len(all))]})
	}
	for _, turn := range []int{least, -5, -1, 0, 1, 2, 3, 4, greatest} {
		for _, p := range pointsOf([]int{least, -far - 1, -wide, -1, 0, 2, far, greatest}) {
			m := api.Motion{Turn: turn, By: p}
			var want []api.Aisle
			for _, a := range l {
				b, c := motion.Do(m, a.Low), motion.Do(m, a.High)
				want = append(want, aisle(a.ID, min(b.X, c.X), min(b.Y, c.Y), max(b.X, c.X), max(b.Y, c.Y)))
			}
			if got := Moved(m, l); !slices.Equal(got, want) {
				t.Fatalf("Moved by %v: %v, not %v", m, got, want)
			}
		}
	}
}

func TestNewMemory(t *testing.T) {
	l := little()
	Moved(by(0, 0, 0), l)[0] = aisle(9, 9, 9, 9, 9)
	Route(at(0, 0), at(1, 1), 0)[0] = at(9, 9)
	Cross(l, at(0, 0), at(2, 2), 0)[0] = 77
	if !slices.Equal(l, little()) || Route(at(0, 0), at(1, 1), 0)[0] != at(0, 0) || Cross(l, at(0, 0), at(2, 2), 0)[0] != 3 {
		t.Error("what was told is no new memory")
	}
}

func TestNothingHandedInIsChanged(t *testing.T) {
	for _, l := range [][]api.Aisle{little(), reversed(little()), rack(40), aisles(aisle(5, 3, 4, 1, 2), aisle(5, 3, 4, 1, 2))} {
		whole := append(slices.Clone(l), aisle(77, 1, 2, 3, 4), aisle(78, 1, 2, 3, 4))
		part, kept := whole[:len(l)], slices.Clone(whole)
		Right(part)
		At(part, at(1, 1))
		Cross(part, at(-9, 0), at(9, 0), 0)
		Moved(by(1, 2, 3), part)
		if !slices.Equal(whole, kept) {
			t.Errorf("%v became %v", kept, whole)
		}
	}
}

// smallMotions are of parts of at most 200, by all turns.
func smallMotions() []api.Motion {
	var l []api.Motion
	for turn := -4; turn <= 5; turn++ {
		for _, p := range pointsOf([]int{-200, -7, 0, 1, 200}) {
			l = append(l, api.Motion{Turn: turn, By: p})
		}
	}
	return l
}

func TestP704APlanThatIsMovedIsAPlan(t *testing.T) {
	corners := aisles(aisle(1, -200, -200, -200, 200), aisle(2, -199, 200, 200, 200), aisle(3, -199, -200, 200, 199))
	for _, l := range append(slices.Concat(plans(20), plans(200)), corners) {
		wantRight(t, l, l, true)
		for _, m := range smallMotions() {
			moved := Moved(m, l)
			wantRight(t, moved, moved, true)
		}
	}
}

func TestP704WhatHasAPointHasItStill(t *testing.T) {
	r := rand.New(rand.NewSource(4))
	for range 12 {
		l := scattered(r, 6, 3)
		for _, m := range smallMotions() {
			moved := Moved(m, l)
			for _, p := range pointsOf(upTo(-5, 5)) {
				for i, a := range l {
					if !has(a, p) {
						continue
					}
					wantAt(t, moved[i:i+1], motion.Do(m, p), a.ID, true)
				}
			}
		}
	}
	for _, l := range plans(200) {
		for _, m := range smallMotions() {
			moved := Moved(m, l)
			for _, a := range l {
				for _, p := range points(a.Low, a.High, at(a.Low.X, a.High.Y), at((a.Low.X+a.High.X)/2, a.Low.Y)) {
					wantAt(t, moved, motion.Do(m, p), a.ID, true)
				}
			}
		}
	}
}

func TestP704AWayThatIsMoved(t *testing.T) {
	r := rand.New(rand.NewSource(5))
	for _, l := range slices.Concat(plans(12), plans(200)) {
		for _, m := range smallMotions() {
			moved := Moved(m, l)
			for range 10 {
				p, q, how := at(r.Intn(401)-200, r.Intn(401)-200), at(r.Intn(401)-200, r.Intn(401)-200), r.Intn(2)
				other := how
				if m.Turn%2 != 0 {
					other = 1 - how
				}
				wantCross(t, moved, motion.Do(m, p), motion.Do(m, q), other, Cross(l, p, q, how)...)
			}
		}
	}
}

func TestP704AWayBack(t *testing.T) {
	r := rand.New(rand.NewSource(6))
	for _, l := range append(slices.Concat(plans(12), plans(200)), scattered(r, 30, 9)) {
		for range 300 {
			p, q := at(r.Intn(401)-200, r.Intn(401)-200), at(r.Intn(31)-15, r.Intn(31)-15)
			for how := range 2 {
				wantCross(t, l, q, p, 1-how, Cross(l, p, q, how)...)
			}
		}
	}
	for _, p := range pointsOf(upTo(-2, 2)) {
		for _, q := range pointsOf(upTo(-2, 2)) {
			for how := range 2 {
				wantRoute(t, q, p, 1-how, reversed(Route(p, q, how)))
				wantCross(t, little(), q, p, 1-how, Cross(little(), p, q, how)...)
			}
		}
	}
}
