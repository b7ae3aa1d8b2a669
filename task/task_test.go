package task

import (
	"fmt"
	"math"
	"slices"
	"testing"

	"tallyman/api"
	"tallyman/plan"
	"tallyman/skill"
)

const (
	least    = math.MinInt
	greatest = math.MaxInt
	ok       = api.OK
	wrong    = api.ErrArg
	beyond   = api.ErrRange
)

func at(x, y int) api.Point { return api.Point{X: x, Y: y} }

func aisle(id, lowX, lowY, highX, highY int) api.Aisle {
	return api.Aisle{ID: id, Low: at(lowX, lowY), High: at(highX, highY)}
}

// span are the numbers from one to another one.
func span(from, to int) []int {
	var l []int
	for n := from; n <= to; n++ {
		l = append(l, n)
	}
	return l
}

// rack are n aisles that stand beside one another, from north to south, at X 1, 3, 5 and so on.
func rack(n int) []api.Aisle {
	var l []api.Aisle
	for i := range n {
		l = append(l, aisle(i+1, 2*i+1, -5, 2*i+1, 5))
	}
	return l
}

// some is a spec that may be, each of whose fields has a number of its own.
func some() api.Spec {
	return api.Spec{ID: 11, Prio: 22, Skill: 33, Gear: 44, From: at(55, 66), To: at(77, 88), After: []int{2, 5, 999}}
}

// someRules may be, and each of their fields has a number of its own.
func someRules() api.Rules {
	return api.Rules{Tasks: 60, Crew: 11, Units: 12, Lease: 500, Tries: 40, Rate: 70, Start: 80, Aisles: rack(5)}
}

// edges are numbers about all limits, and both ends of an int.
func edges() []int {
	l := []int{least, least + 1, greatest - 1, greatest}
	for _, n := range []int{0, 8, 16, 64, 999, 1000, 1 << 20, 1 << 31, 1 << 32, 1 << 52} {
		for d := -2; d <= 2; d++ {
			l = append(l, n+d, -n+d)
		}
	}
	slices.Sort(l)
	return slices.Compact(l)
}

// lcg tells numbers that are mixed, the same ones each time.
func lcg(seed uint64) func(n int) int {
	return func(n int) int {
		seed = seed*6364136223846793005 + 1442695040888963407
		return int(seed>>33) % n
	}
}

func outside(n, from, to int) bool { return !(from <= n && n <= to) }

// reckonCheck goes by the chapter's words.
func reckonCheck(x api.Spec) api.Errno {
	if outside(x.ID, 1, 999) || outside(x.Prio, 0, 1048575) {
		return beyond
	}
	for _, n := range []int{x.From.X, x.From.Y, x.To.X, x.To.Y} {
		if outside(n, -1000, 1000) {
			return beyond
		}
	}
	if len(x.After) > 8 {
		return wrong
	}
	for i, n := range x.After {
		if outside(n, 1, 999) || n == x.ID || i > 0 && n <= x.After[i-1] {
			return wrong
		}
	}
	return ok
}

// reckonRules goes by the chapter's words; what a plan is tells the layer below.
func reckonRules(r api.Rules) api.Errno {
	switch {
	case outside(r.Tasks, 1, 64), outside(r.Crew, 1, 16), outside(r.Units, 1, 16), outside(r.Lease, 1, 1000),
		outside(r.Tries, 1, 64), outside(r.Rate, 0, 1048576), outside(r.Start, 0, 2147483647):
		return beyond
	case !plan.Right(r.Aisles):
		return wrong
	}
	return ok
}

// reckonWant goes from point to point, and asks each aisle for each one.
func reckonWant(r api.Rules, x api.Spec) []int {
	near := func(n int) int { return min(max(n, -1000), 1000) }
	here, there := at(near(x.From.X), near(x.From.Y)), at(near(x.To.X), near(x.To.Y))
	found := map[int]bool{}
	look := func() {
		for _, a := range r.Aisles {
			if a.Low.X <= here.X && here.X <= a.High.X && a.Low.Y <= here.Y && here.Y <= a.High.Y {
				found[a.ID] = true
			}
		}
	}
	look()
	for here != there {
		switch {
		case here.X < there.X:
			here.X++
		case here.X > there.X:
			here.X--
		case here.Y < there.Y:
			here.Y++
		default:
			here.Y--
		}
		look()
	}
	var l []int
	for id := range found {
		l = append(l, id)
	}
	slices.Sort(l)
	return l
}

// reckonFits asks bit by bit.
func reckonFits(x api.Spec, worker, unit uint64) bool {
	for n := range 64 {
		bit := uint64(1) << n
		if x.Skill&bit != 0 && worker&bit == 0 || x.Gear&bit != 0 && unit&bit == 0 {
			return false
		}
	}
	return true
}

func alike(a, b []int) bool {
	if len(a) != len(b) {
		return false
	}
	for i := range a {
		if a[i] != b[i] {
			return false
		}
	}
	return true
}

func wantCheck(t *testing.T, x api.Spec, want api.Errno) {
	t.Helper()
	if got := Check(x); got != want {
		t.Errorf("Check(%v): %d, not %d", x, got, want)
	}
	if got := reckonCheck(x); got != want {
		t.Errorf("%v is reckoned: %d, not %d", x, got, want)
	}
}

func wantRules(t *testing.T, r api.Rules, want api.Errno) {
	t.Helper()
	if got := Rules(r); got != want {
		t.Errorf("Rules(%v): %d, not %d", r, got, want)
	}
	if got := reckonRules(r); got != want {
		t.Errorf("%v is reckoned: %d, not %d", r, got, want)
	}
}

func wantWant(t *testing.T, r api.Rules, x api.Spec, want ...int) {
	t.Helper()
	if got := Want(r, x); !slices.Equal(got, want) {
		t.Errorf("Want(%v, from %v to %v): %d, not %d", r.Aisles, x.From, x.To, got, want)
	}
}

func wantFits(t *testing.T, x api.Spec, worker, unit uint64, want bool) {
	t.Helper()
	if got := Fits(x, worker, unit); got != want {
		t.Errorf("Fits(%x, %x, %x, %x): %t, not %t", x.Skill, x.Gear, worker, unit, got, want)
	}
}

func wantSame(t *testing.T, a, b api.Spec, want bool) {
	t.Helper()
	if Same(a, b) != want || Same(b, a) != want {
		t.Errorf("Same(%v, %v): %t, and the other way about %t, not %t", a, b, Same(a, b), Same(b, a), want)
	}
}

func wantSameRules(t *testing.T, a, b api.Rules, want bool) {
	t.Helper()
	if SameRules(a, b) != want || SameRules(b, a) != want {
		t.Errorf("SameRules(%v, %v): %t, and the other way about %t, not %t", a, b, SameRules(a, b), SameRules(b, a), want)
	}
}

// specField is a number of a spec, and the bounds of it.
type specField struct {
	name     string
	of       func(x *api.Spec) *int
	from, to int
}

func specFields() []specField {
	return []specField{
		{"ID", func(x *api.Spec) *int { return &x.ID }, 1, 999},
		{"Prio", func(x *api.Spec) *int { return &x.Prio }, 0, 1048575},
		{"From.X", func(x *api.Spec) *int { return &x.From.X }, -1000, 1000},
		{"From.Y", func(x *api.Spec) *int { return &x.From.Y }, -1000, 1000},
		{"To.X", func(x *api.Spec) *int { return &x.To.X }, -1000, 1000},
		{"To.Y", func(x *api.Spec) *int { return &x.To.Y }, -1000, 1000},
	}
}

// ruleField is a number of rules, and the bounds of it.
type ruleField struct {
	name     string
	of       func(r *api.Rules) *int
	from, to int
}

func ruleFields() []ruleField {
	return []ruleField{
		{"Tasks", func(r *api.Rules) *int { return &r.Tasks }, 1, 64},
		{"Crew", func(r *api.Rules) *int { return &r.Crew }, 1, 16},
		{"Units", func(r *api.Rules) *int { return &r.Units }, 1, 16},
		{"Lease", func(r *api.Rules) *int { return &r.Lease }, 1, 1000},
		{"Tries", func(r *api.Rules) *int { return &r.Tries }, 1, 64},
		{"Rate", func(r *api.Rules) *int { return &r.Rate }, 0, 1048576},
		{"Start", func(r *api.Rules) *int { return &r.Start }, 0, 2147483647},
	}
}

func TestP2201CheckOfEachNumber(t *testing.T) {
	wantCheck(t, some(), ok)
	wantCheck(t, api.Spec{}, beyond)
	wantCheck(t, api.Spec{ID: 1}, ok)
	for _, f := range specFields() {
		for _, n := range append(edges(), f.from-1, f.from, f.from+1, f.to-1, f.to, f.to+1) {
			x := some()
			x.After = []int{2, 500}
			*f.of(&x) = n
			want := ok
			if n < f.from || n > f.to {
				want = beyond
			} else if f.name == "ID" && (n == 2 || n == 500) {
				want = wrong
			}
			wantCheck(t, x, want)
		}
	}
}

// TestP2201CheckOfNoBits: any skills may be asked for.
func TestP2201CheckOfNoBits(t *testing.T) {
	for _, bits := range []uint64{0, 1, 1 << 63, math.MaxUint64} {
		x := some()
		x.Skill, x.Gear = bits, bits
		wantCheck(t, x, ok)
		x.Skill = ^bits
		wantCheck(t, x, ok)
	}
}

func TestP2201CheckOfAfter(t *testing.T) {
	for _, c := range []struct {
		after []int
		want  api.Errno
	}{
		{nil, ok},
		{[]int{}, ok},
		{[]int{1}, ok},
		{[]int{999}, ok},
		{[]int{1, 999}, ok},
		{[]int{10, 12}, ok},
		{[]int{1, 2, 3, 4, 5, 6, 7}, ok},
		{[]int{1, 2, 3, 4, 5, 6, 7, 8}, ok},
		{[]int{992, 993, 994, 995, 996, 997, 998, 999}, ok},
		{[]int{1, 2, 3, 4, 5, 6, 7, 8, 9}, wrong},
		{[]int{1, 2, 3, 4, 5, 6, 7, 8, 999}, wrong},
		{span(1, 999), wrong},
		{span(1, 100000), wrong},
		{make([]int, 100000), wrong},
		{[]int{0}, wrong},
		{[]int{-1}, wrong},
		{[]int{least}, wrong},
		{[]int{1000}, wrong},
		{[]int{greatest}, wrong},
		{[]int{1 << 32}, wrong},
		{[]int{1<<32 + 1}, wrong},
		{[]int{0, 1, 2}, wrong},
		{[]int{1, 2, 1000}, wrong},
		{[]int{least, greatest}, wrong},
		{[]int{11}, wrong},
		{[]int{11, 12}, wrong},
		{[]int{10, 11, 12}, wrong},
		{[]int{9, 10, 11}, wrong},
		{[]int{2, 2}, wrong},
		{[]int{2, 1}, wrong},
		{[]int{1, 3, 2}, wrong},
		{[]int{1, 3, 3}, wrong},
		{[]int{1, 2, 3, 4, 5, 6, 8, 7}, wrong},
		{[]int{2, 1, 3, 4, 5, 6, 7, 8}, wrong},
		{[]int{999, 1}, wrong},
	} {
		x := some()
		x.After = c.after
		wantCheck(t, x, c.want)
	}
}

// TestP2201CheckOfItsOwn asks it at each place, and of both ends of the IDs.
func TestP2201CheckOfItsOwn(t *testing.T) {
	for _, first := range []int{1, 500, 992} {
		after := span(first, first+7)
		for id := max(first-2, 1); id <= min(first+9, 999); id++ {
			x := api.Spec{ID: id, After: after}
			want := ok
			if slices.Contains(after, id) {
				want = wrong
			}
			wantCheck(t, x, want)
		}
	}
}

// TestP2201TheOrderOfErrors: what is out of range is told ahead of what After does wrong.
func TestP2201TheOrderOfErrors(t *testing.T) {
	for _, after := range [][]int{{11}, {0}, {1000}, {2, 1}, {2, 2}, span(1, 9), {least}, {greatest}} {
		x := some()
		x.After = after
		wantCheck(t, x, wrong)
		for _, f := range specFields() {
			for _, n := range []int{least, f.from - 1, f.to + 1, greatest} {
				y := x
				*f.of(&y) = n
				wantCheck(t, y, beyond)
			}
		}
	}
	wantCheck(t, api.Spec{ID: 0, After: []int{0}}, beyond)
	wantCheck(t, api.Spec{ID: 1000, After: []int{1000}}, beyond)
	wantCheck(t, api.Spec{ID: -1, After: []int{-1}}, beyond)
}

// TestP2201AllShortLists: all lists of up to four little IDs.
func TestP2201AllShortLists(t *testing.T) {
	ids := []int{-1, 0, 1, 2, 3, 998, 999, 1000}
	lists := [][]int{nil}
	for at := 0; at < len(lists); at++ {
		for _, id := range []int{1, 2, 999} {
			x := api.Spec{ID: id, After: lists[at]}
			wantCheck(t, x, reckonCheck(x))
		}
		if len(lists[at]) == 4 {
			continue
		}
		for _, id := range ids {
			lists = append(lists, append(slices.Clone(lists[at]), id))
		}
	}
}

func TestP2201Mixed(t *testing.T) {
	pick := lcg(1)
	all := edges()
	found := map[api.Errno]int{}
	for range 100000 {
		x := api.Spec{ID: 1 + pick(999), Prio: pick(1048576), Skill: uint64(pick(8)), From: at(pick(2001)-1000, pick(2001)-1000), To: at(pick(2001)-1000, pick(2001)-1000)}
		for range pick(10) {
			x.After = append(x.After, pick(1001))
		}
		if pick(3) > 0 {
			slices.Sort(x.After)
		}
		if pick(3) == 0 {
			fields := specFields()
			*fields[pick(len(fields))].of(&x) = all[pick(len(all))]
		}
		if pick(4) == 0 && len(x.After) > 0 {
			x.ID = x.After[pick(len(x.After))]
		}
		want := reckonCheck(x)
		found[want]++
		wantCheck(t, x, want)
	}
	if found[ok] < 1000 || found[wrong] < 1000 || found[beyond] < 1000 {
		t.Errorf("too few of some kind: %v", found)
	}
}

func TestP2202RulesOfEachNumber(t *testing.T) {
	wantRules(t, someRules(), ok)
	wantRules(t, api.Rules{}, beyond)
	wantRules(t, api.Rules{Tasks: 1, Crew: 1, Units: 1, Lease: 1, Tries: 1}, ok)
	wantRules(t, api.Rules{Tasks: 64, Crew: 16, Units: 16, Lease: 1000, Tries: 64, Rate: 1048576, Start: 2147483647, Aisles: rack(32)}, ok)
	for _, f := range ruleFields() {
		for _, n := range append(edges(), f.from-1, f.from, f.from+1, f.to-1, f.to, f.to+1) {
			r := someRules()
			*f.of(&r) = n
			want := ok
			if n < f.from || n > f.to {
				want = beyond
			}
			wantRules(t, r, want)
		}
	}
}

// noPlans are lists of aisles, each of which breaks one thing.
func noPlans() [][]api.Aisle {
	return [][]api.Aisle{
		rack(33),
		rack(1000),
		{aisle(0, 1, 1, 2, 2)},
		{aisle(-1, 1, 1, 2, 2)},
		{aisle(1000, 1, 1, 2, 2)},
		{aisle(least, 1, 1, 2, 2)},
		{aisle(greatest, 1, 1, 2, 2)},
		{aisle(2, 1, 1, 2, 2), aisle(1, 5, 5, 6, 6)},
		{aisle(2, 1, 1, 2, 2), aisle(2, 5, 5, 6, 6)},
		{aisle(1, 1, 1, 2, 2), aisle(2, 2, 2, 6, 6)},
		{aisle(1, 1, 1, 2, 2), aisle(2, 5, 5, 6, 6), aisle(3, 0, 0, 9, 9)},
		{aisle(1, 2, 1, 1, 2)},
		{aisle(1, 1, 2, 2, 1)},
		{aisle(1, -1001, 0, 0, 0)},
		{aisle(1, 0, -1001, 0, 0)},
		{aisle(1, 0, 0, 1001, 0)},
		{aisle(1, 0, 0, 0, 1001)},
		{aisle(1, least, least, greatest, greatest)},
	}
}

func TestP2202RulesOfAisles(t *testing.T) {
	for _, l := range [][]api.Aisle{
		nil, {}, rack(1), rack(31), rack(32),
		{aisle(1, 0, 0, 0, 0)},
		{aisle(999, -1000, -1000, 1000, 1000)},
		{aisle(1, -1000, -1000, 0, 1000), aisle(999, 1, -1000, 1000, 1000)},
	} {
		r := someRules()
		r.Aisles = l
		wantRules(t, r, ok)
	}
	for _, l := range noPlans() {
		r := someRules()
		r.Aisles = l
		wantRules(t, r, wrong)
	}
}

// TestP2202TheOrderOfErrors: what is out of range is told ahead of what is no plan.
func TestP2202TheOrderOfErrors(t *testing.T) {
	for _, l := range noPlans() {
		for _, f := range ruleFields() {
			for _, n := range []int{least, f.from - 1, f.to + 1, greatest} {
				r := someRules()
				r.Aisles = l
				*f.of(&r) = n
				wantRules(t, r, beyond)
			}
		}
	}
}

func TestP2202Mixed(t *testing.T) {
	pick := lcg(2)
	all, bad := edges(), noPlans()
	found := map[api.Errno]int{}
	for range 50000 {
		r := api.Rules{Tasks: 1 + pick(64), Crew: 1 + pick(16), Units: 1 + pick(16), Lease: 1 + pick(1000), Tries: 1 + pick(64), Rate: pick(1048577), Start: pick(1 << 31), Aisles: rack(pick(5))}
		if pick(2) == 0 {
			fields := ruleFields()
			*fields[pick(len(fields))].of(&r) = all[pick(len(all))]
		}
		if pick(3) == 0 {
			r.Aisles = bad[pick(len(bad))]
		}
		want := reckonRules(r)
		found[want]++
		wantRules(t, r, want)
	}
	if found[ok] < 1000 || found[wrong] < 1000 || found[beyond] < 1000 {
		t.Errorf("too few of some kind: %v", found)
	}
}

func way(from, to api.Point) api.Spec { return api.Spec{From: from, To: to} }

func TestP2203Want(t *testing.T) {
	five := api.Rules{Aisles: rack(5)}
	wantWant(t, five, way(at(0, 0), at(10, 0)), 1, 2, 3, 4, 5)
	wantWant(t, five, way(at(10, 0), at(0, 0)), 1, 2, 3, 4, 5)
	wantWant(t, five, way(at(2, 0), at(6, 0)), 2, 3)
	wantWant(t, five, way(at(1, 0), at(1, 0)), 1)
	wantWant(t, five, way(at(2, 0), at(2, 0)))
	wantWant(t, five, way(at(0, 6), at(10, 6)))
	wantWant(t, five, way(at(0, 5), at(10, 5)), 1, 2, 3, 4, 5)
	// First X, then Y: the way north lies at the end, not at the beginning.
	wantWant(t, five, way(at(0, 9), at(3, 0)), 2)
	wantWant(t, five, way(at(3, 0), at(0, 9)), 1, 2)
	wantWant(t, five, way(at(0, 0), at(3, 9)), 1, 2)
	wantWant(t, five, way(at(3, 9), at(0, 0)))
	wantWant(t, five, way(at(least, 0), at(greatest, 0)), 1, 2, 3, 4, 5)
	wantWant(t, five, way(at(least, least), at(greatest, greatest)))
	wantWant(t, five, way(at(least, least), at(5, greatest)), 3)
	wantWant(t, api.Rules{}, way(at(0, 0), at(10, 0)))
	wantWant(t, api.Rules{Aisles: []api.Aisle{}}, way(at(0, 0), at(10, 0)))
	wantWant(t, api.Rules{Aisles: rack(32)}, way(at(0, 0), at(99, 0)), span(1, 32)...)
}

// TestP2203WantNear: points beyond Wide count as the nearest ones within it.
func TestP2203WantNear(t *testing.T) {
	r := api.Rules{Aisles: []api.Aisle{aisle(3, 1000, 1000, 1000, 1000), aisle(5, -1000, -1000, -1000, -1000), aisle(7, 1001, 0, 1001, 0)}}
	for _, n := range []int{1000, 1001, 1 << 20, greatest} {
		wantWant(t, r, way(at(n, n), at(n, n)), 3)
		wantWant(t, r, way(at(-n, -n), at(-n, -n)), 5)
		wantWant(t, r, way(at(-n, -n), at(n, n)), 3, 5)
		wantWant(t, r, way(at(n, 0), at(n, 0)))
	}
	wantWant(t, r, way(at(least, least), at(greatest, greatest)), 3, 5)
	wantWant(t, r, way(at(999, 1000), at(999, 999)))
}

// TestP2203WantOfAnyAisles: also of aisles that are no plan, whose order and IDs are any.
func TestP2203WantOfAnyAisles(t *testing.T) {
	r := api.Rules{Aisles: []api.Aisle{
		aisle(greatest, 0, 0, 9, 9), aisle(5, 1, 1, 2, 2), aisle(5, 0, 0, 0, 0), aisle(-4, 0, 0, 9, 9), aisle(6, 5, 5, 4, 4), aisle(least, least, least, greatest, greatest),
	}}
	wantWant(t, r, way(at(0, 0), at(3, 0)), least, -4, 5, greatest)
	wantWant(t, r, way(at(3, 3), at(3, 3)), least, -4, greatest)
	wantWant(t, r, way(at(-9, 0), at(-9, 9)), least)
	wantWant(t, api.Rules{Aisles: slices.Repeat(rack(2), 50000)}, way(at(0, 0), at(9, 0)), 1, 2)
}

// TestP2203WantOfTheWayAlone: on nothing else of rules or spec it hangs.
func TestP2203WantOfTheWayAlone(t *testing.T) {
	r := api.Rules{Tasks: least, Crew: -1, Units: greatest, Rate: -5, Aisles: rack(3)}
	x := api.Spec{ID: -1, Prio: least, Skill: 7, Gear: 9, From: at(0, 0), To: at(4, 0), After: []int{5, 5, -1}}
	wantWant(t, r, x, 1, 2)
}

func TestP2203WantOfLittleWays(t *testing.T) {
	plans := [][]api.Aisle{
		{aisle(4, 1, 1, 2, 2), aisle(7, 1, 4, 3, 4), aisle(9, 4, 0, 4, 3)},
		{aisle(9, 0, 0, 0, 0), aisle(1, 4, 4, 4, 4), aisle(9, 2, 0, 2, 4), aisle(3, 0, 2, 4, 2)},
	}
	var points []api.Point
	for x := range 5 {
		for y := range 5 {
			points = append(points, at(x, y))
		}
	}
	for _, l := range plans {
		for _, p := range points {
			for _, q := range points {
				r := api.Rules{Aisles: l}
				wantWant(t, r, way(p, q), reckonWant(r, way(p, q))...)
			}
		}
	}
}

func TestP2203WantMixed(t *testing.T) {
	pick := lcg(3)
	some := 0
	for range 5000 {
		var r api.Rules
		for range pick(12) {
			x, y := pick(41)-20, pick(41)-20
			r.Aisles = append(r.Aisles, aisle(pick(9), x, y, x+pick(16)-2, y+pick(16)-2))
		}
		x := way(at(pick(61)-30, pick(61)-30), at(pick(61)-30, pick(61)-30))
		want := reckonWant(r, x)
		some += len(want)
		wantWant(t, r, x, want...)
	}
	if some < 2000 {
		t.Errorf("the ways go through %d aisles alone", some)
	}
}

func TestP2203Fits(t *testing.T) {
	const all = math.MaxUint64
	x := api.Spec{Skill: skill.Of(0, 5, 63), Gear: skill.Of(1, 62)}
	wantFits(t, x, x.Skill, x.Gear, true)
	wantFits(t, x, all, all, true)
	wantFits(t, x, x.Skill|1<<9, x.Gear|1<<9, true)
	wantFits(t, x, x.Gear, x.Skill, false)
	wantFits(t, x, x.Skill, 0, false)
	wantFits(t, x, 0, x.Gear, false)
	wantFits(t, x, 0, 0, false)
	wantFits(t, x, x.Skill, x.Skill, false)
	wantFits(t, x, x.Gear, x.Gear, false)
	wantFits(t, x, all, ^x.Gear, false)
	wantFits(t, x, ^x.Skill, all, false)
	for n := range 64 {
		bit := uint64(1) << n
		wantFits(t, x, all&^bit, all, x.Skill&bit == 0)
		wantFits(t, x, all, all&^bit, x.Gear&bit == 0)
		wantFits(t, api.Spec{Skill: bit}, bit, 0, true)
		wantFits(t, api.Spec{Skill: bit}, ^bit, all, false)
		wantFits(t, api.Spec{Gear: bit}, 0, bit, true)
		wantFits(t, api.Spec{Gear: bit}, all, ^bit, false)
	}
	for _, w := range []uint64{0, 1, 1 << 63, all} {
		wantFits(t, api.Spec{}, w, 0, true)
		wantFits(t, api.Spec{}, 0, w, true)
		wantFits(t, api.Spec{Skill: all, Gear: all}, w, all, w == all)
		wantFits(t, api.Spec{Skill: all, Gear: all}, all, w, w == all)
	}
}

func TestP2203FitsOfAllLittleSets(t *testing.T) {
	for skills := range uint64(8) {
		for gear := range uint64(8) {
			for worker := range uint64(8) {
				for unit := range uint64(8) {
					x := api.Spec{ID: 1, Skill: skills, Gear: gear}
					wantFits(t, x, worker, unit, reckonFits(x, worker, unit))
					// The same at the other end of the sets.
					high := api.Spec{Skill: skills << 61, Gear: gear << 61}
					wantFits(t, high, worker<<61, unit<<61, reckonFits(x, worker, unit))
				}
			}
		}
	}
}

// TestP2203FitsOfBitsAlone: on nothing else of a spec it hangs.
func TestP2203FitsOfBitsAlone(t *testing.T) {
	wantFits(t, api.Spec{ID: least, Prio: -1, Skill: 2, Gear: 4, From: at(least, 0), After: []int{3, 3}}, 2, 4, true)
	wantFits(t, api.Spec{ID: least, Prio: -1, Skill: 2, Gear: 4, From: at(least, 0), After: []int{3, 3}}, 2, 2, false)
}

// others are specs that differ from one in one part each.
func others(x api.Spec) []api.Spec {
	var l []api.Spec
	for _, f := range specFields() {
		for _, d := range []int{-1, 1, 1 << 32, least} {
			y := Clone(x)
			*f.of(&y) += d
			l = append(l, y)
		}
	}
	for n := range 64 {
		y, z := Clone(x), Clone(x)
		y.Skill ^= 1 << n
		z.Gear ^= 1 << n
		l = append(l, y, z)
	}
	for i := range x.After {
		for _, d := range []int{-1, 1, 1 << 32, least} {
			y := Clone(x)
			y.After[i] += d
			l = append(l, y)
		}
		y := Clone(x)
		y.After = slices.Delete(y.After, i, i+1)
		l = append(l, y)
	}
	for i := range len(x.After) + 1 {
		y := Clone(x)
		y.After = slices.Insert(y.After, i, 4)
		l = append(l, y)
	}
	return l
}

func TestP2204Same(t *testing.T) {
	for _, x := range []api.Spec{some(), {}, {ID: -1}, {ID: least, Prio: greatest, Skill: math.MaxUint64, From: at(least, greatest), To: at(greatest, least), After: []int{5, 5, -1, least}}} {
		wantSame(t, x, x, true)
		wantSame(t, x, Clone(x), true)
		for _, y := range others(x) {
			wantSame(t, x, y, false)
			wantSame(t, y, Clone(y), true)
		}
	}
}

// TestP2204SameOfFieldsSwapped: what one field has counts not as another one's.
func TestP2204SameOfFieldsSwapped(t *testing.T) {
	for _, f := range specFields() {
		for _, g := range specFields() {
			x := some()
			p, q := f.of(&x), g.of(&x)
			*p, *q = *q, *p
			wantSame(t, some(), x, f.name == g.name)
		}
	}
	x := some()
	x.Skill, x.Gear = x.Gear, x.Skill
	wantSame(t, some(), x, false)
	x = some()
	x.From, x.To = x.To, x.From
	wantSame(t, some(), x, false)
	x = some()
	slices.Reverse(x.After)
	wantSame(t, some(), x, false)
}

func TestP2204SameOfNilLists(t *testing.T) {
	x, y := some(), some()
	x.After, y.After = nil, []int{}
	wantSame(t, x, y, true)
	wantSame(t, x, x, true)
	wantSame(t, y, y, true)
	y.After = make([]int, 0, 9)
	wantSame(t, x, y, true)
	y.After = []int{0}
	wantSame(t, x, y, false)
	wantSame(t, api.Spec{After: []int{}}, api.Spec{}, true)
}

// TestP2204SameOfCapacity: spare room counts not, wherever lists lie.
func TestP2204SameOfCapacity(t *testing.T) {
	row := []int{1, 2, 1, 2, 3}
	wantSame(t, api.Spec{After: row[:2]}, api.Spec{After: row[2:4]}, true)
	wantSame(t, api.Spec{After: row[:3]}, api.Spec{After: row[2:]}, false)
	wantSame(t, api.Spec{After: row[:2]}, api.Spec{After: row[2:]}, false)
	wantSame(t, api.Spec{After: row[:1]}, api.Spec{After: row[:2]}, false)
	long := span(1, 100000)
	other := slices.Clone(long)
	wantSame(t, api.Spec{After: long}, api.Spec{After: other}, true)
	other[99999] = 0
	wantSame(t, api.Spec{After: long}, api.Spec{After: other}, false)
}

// otherRules are rules that differ from some in one part each.
func otherRules() []api.Rules {
	var l []api.Rules
	other := func(change func(r *api.Rules)) {
		r := someRules()
		change(&r)
		l = append(l, r)
	}
	for _, f := range ruleFields() {
		for _, d := range []int{-1, 1, 1 << 32, least} {
			other(func(r *api.Rules) { *f.of(r) += d })
		}
	}
	for i := range someRules().Aisles {
		for _, d := range []int{-1, 1, 1 << 32, least} {
			other(func(r *api.Rules) { r.Aisles[i].ID += d })
			other(func(r *api.Rules) { r.Aisles[i].Low.X += d })
			other(func(r *api.Rules) { r.Aisles[i].Low.Y += d })
			other(func(r *api.Rules) { r.Aisles[i].High.X += d })
			other(func(r *api.Rules) { r.Aisles[i].High.Y += d })
		}
		other(func(r *api.Rules) { r.Aisles = slices.Delete(r.Aisles, i, i+1) })
		other(func(r *api.Rules) { r.Aisles = slices.Insert(r.Aisles, i, api.Aisle{}) })
	}
	other(func(r *api.Rules) { r.Aisles = append(r.Aisles, aisle(9, 90, 90, 91, 91)) })
	other(func(r *api.Rules) { r.Aisles = append(r.Aisles, api.Aisle{}) })
	other(func(r *api.Rules) { slices.Reverse(r.Aisles) })
	other(func(r *api.Rules) { r.Aisles = nil })
	return l
}

func TestP2204SameRules(t *testing.T) {
	wantSameRules(t, someRules(), someRules(), true)
	wantSameRules(t, api.Rules{}, api.Rules{}, true)
	wantSameRules(t, api.Rules{Tasks: -1, Start: least, Aisles: noPlans()[3]}, api.Rules{Tasks: -1, Start: least, Aisles: noPlans()[3]}, true)
	for _, r := range otherRules() {
		wantSameRules(t, someRules(), r, false)
		wantSameRules(t, r, r, true)
	}
	for _, f := range ruleFields() {
		for _, g := range ruleFields() {
			r := someRules()
			p, q := f.of(&r), g.of(&r)
			*p, *q = *q, *p
			wantSameRules(t, someRules(), r, f.name == g.name)
		}
	}
}

func TestP2204SameRulesOfNilLists(t *testing.T) {
	r, q := someRules(), someRules()
	r.Aisles, q.Aisles = nil, []api.Aisle{}
	wantSameRules(t, r, q, true)
	wantSameRules(t, r, r, true)
	wantSameRules(t, q, q, true)
	q.Aisles = make([]api.Aisle, 0, 9)
	wantSameRules(t, r, q, true)
	q.Aisles = []api.Aisle{{}}
	wantSameRules(t, r, q, false)
	row := slices.Concat(rack(3), rack(3))
	r.Aisles, q.Aisles = row[:3], row[3:]
	wantSameRules(t, r, q, true)
	q.Aisles = row[:4]
	wantSameRules(t, r, q, false)
}

// TestP2204SameIsAsThePartsAre: all pairs of little specs.
func TestP2204SameIsAsThePartsAre(t *testing.T) {
	var l []api.Spec
	for n := range 1 << 8 {
		bit := func(i int) int { return n >> i & 1 }
		x := api.Spec{ID: bit(0), Prio: bit(1), Skill: uint64(bit(2)), Gear: uint64(bit(3)), From: at(bit(4), 0), To: at(0, bit(5))}
		if bit(6) == 1 {
			x.After = append(x.After, 1)
		}
		if bit(7) == 1 {
			x.After = append(x.After, 2)
		}
		l = append(l, x)
	}
	for i, x := range l {
		for k, y := range l {
			wantSame(t, x, Clone(y), i == k)
		}
	}
}

func TestP2204Clone(t *testing.T) {
	for _, x := range append(others(some()), some(), api.Spec{}, api.Spec{ID: least, After: []int{5, 4, 4, greatest}}, api.Spec{After: span(1, 100000)}) {
		y := Clone(x)
		if y.ID != x.ID || y.Prio != x.Prio || y.Skill != x.Skill || y.Gear != x.Gear || y.From != x.From || y.To != x.To || !alike(y.After, x.After) {
			t.Errorf("Clone(%v): %v", x, y)
		}
	}
}

// TestP2204CloneIsNewMemory: neither one hangs on the other one, spare room neither.
func TestP2204CloneIsNewMemory(t *testing.T) {
	for n := range 12 {
		row := append(span(1, n), 77, 78, 79)
		kept := slices.Clone(row)
		x := api.Spec{After: row[:n]}
		y := Clone(x)
		for i := range y.After {
			y.After[i] = -1
		}
		y.After = append(y.After, -2, -3)
		if !slices.Equal(row, kept) {
			t.Errorf("what was cloned became %d", row)
		}
		z := Clone(x)
		for i := range row {
			row[i] = -5
		}
		if !slices.Equal(z.After, span(1, n)) {
			t.Errorf("the clone became %d", z.After)
		}
	}
	a := Clone(some())
	b := Clone(a)
	b.After[0] = 9
	if !Same(a, some()) {
		t.Errorf("a clone that was cloned became %v", a)
	}
}

func TestWantIsNewMemory(t *testing.T) {
	r, x := api.Rules{Aisles: rack(3)}, way(at(0, 0), at(9, 0))
	Want(r, x)[0] = 99
	wantWant(t, r, x, 1, 2, 3)
}

func TestNothingHandedInIsChanged(t *testing.T) {
	row := []int{5, 3, 3, 900, 77, 78}
	aisles := append(rack(3), aisle(2, 9, 9, 1, 1), aisle(77, 1, 2, 3, 4))
	rowKept, aislesKept := slices.Clone(row), slices.Clone(aisles)
	for n := range len(row) {
		for k := range len(aisles) {
			x, r := some(), someRules()
			x.After, r.Aisles = row[:n], aisles[:k]
			Check(x)
			Rules(r)
			Want(r, x)
			Fits(x, 3, 4)
			Same(x, some())
			SameRules(r, someRules())
			Clone(x)
		}
	}
	if !slices.Equal(row, rowKept) || !slices.Equal(aisles, aislesKept) {
		t.Errorf("%d, %v became %d, %v", rowKept, aislesKept, row, aisles)
	}
}

func TestExamplesOfTheChapter(t *testing.T) {
	wantCheck(t, api.Spec{ID: 3, After: []int{3}}, wrong)
}

func FuzzSpecs(f *testing.F) {
	f.Add(3, 5, uint64(1), uint64(2), 1, 0, 4, 0, []byte{2, 3})
	f.Add(0, -1, uint64(0), uint64(0), 1001, 0, -1001, 0, []byte{})
	f.Fuzz(func(t *testing.T, id, prio int, skills, gear uint64, fromX, fromY, toX, toY int, after []byte) {
		x := api.Spec{ID: id, Prio: prio, Skill: skills, Gear: gear, From: at(fromX, fromY), To: at(toX, toY)}
		for _, b := range after {
			x.After = append(x.After, int(b)*8-9)
		}
		wantCheck(t, x, reckonCheck(x))
		wantFits(t, x, gear, skills, reckonFits(x, gear, skills))
		wantSame(t, x, Clone(x), true)
		r := api.Rules{Tasks: id, Crew: prio, Units: fromX, Lease: fromY, Tries: toX, Rate: toY, Start: id, Aisles: rack(len(after))}
		wantRules(t, r, reckonRules(r))
		wantWant(t, r, x, reckonWant(r, x)...)
		if s := fmt.Sprint(Clone(x)); s != fmt.Sprint(x) && len(after) > 0 {
			t.Errorf("Clone(%v): %s", x, s)
		}
	})
}
