package batch

import (
	"fmt"
	"math"
	"slices"
	"testing"

	"tallyman/api"
	"tallyman/task"
)

const (
	least    = math.MinInt
	greatest = math.MaxInt
)

func spec(id int, after ...int) api.Spec { return api.Spec{ID: id, After: after} }

// known is a task with numbers also where none count: its own After names what there is not, and itself.
func known(id, status int) api.Task {
	return api.Task{
		Spec:   api.Spec{ID: id, Prio: -5, From: api.Point{X: 1 << 40}, After: []int{id, 777, 778}},
		Status: status, Seq: -1, Since: least, Lost: greatest, Burnt: []int{3, 2, 1},
	}
}

func specs(l ...api.Spec) []api.Spec { return l }

func tasks(l ...api.Task) []api.Task { return l }

// row are specs from one ID to another one, each after the one ahead of it.
func row(from, to int) []api.Spec {
	l := specs(spec(from))
	for id := from + 1; id <= to; id++ {
		l = append(l, spec(id, id-1))
	}
	return l
}

func backward(l []api.Spec) []api.Spec {
	l = slices.Clone(l)
	slices.Reverse(l)
	return l
}

// lcg tells numbers that are mixed, the same ones each time.
func lcg(seed uint64) func(n int) int {
	return func(n int) int {
		seed = seed*6364136223846793005 + 1442695040888963407
		return int(seed>>33) % n
	}
}

// sight is all that is told of a batch.
type sight struct {
	e     api.Errno
	free  []int
	order []int
	whole bool
}

func (s sight) String() string {
	return fmt.Sprintf("check %d, free %d, order %d, whole %t", s.e, s.free, s.order, s.whole)
}

func (s sight) is(o sight) bool {
	return s.e == o.e && s.whole == o.whole && slices.Equal(s.free, o.free) && slices.Equal(s.order, o.order)
}

func see(room int, known []api.Task, l []api.Spec) sight {
	order, whole := Order(l)
	return sight{Check(room, known, l), Free(known, l), order, whole}
}

// reckon tells the same by the chapter's words, with lists that are looked through each time.
func reckon(room int, known []api.Task, l []api.Spec) sight {
	order, whole := reckonOrder(l)
	return sight{reckonCheck(room, known, l), reckonFree(known, l), order, whole}
}

// firstKnown tells the status of the first known task of an ID.
func firstKnown(known []api.Task, id int) (int, bool) {
	for _, t := range known {
		if t.Spec.ID == id {
			return t.Status, true
		}
	}
	return 0, false
}

func hasSpec(l []api.Spec, id int) bool {
	for _, x := range l {
		if x.ID == id {
			return true
		}
	}
	return false
}

func reckonCheck(room int, known []api.Task, l []api.Spec) api.Errno {
	if len(l) == 0 {
		return api.ErrArg
	}
	for _, x := range l {
		if e := task.Check(x); e != api.OK {
			return e
		}
	}
	if room < 0 || len(known) > room || len(l) > room-len(known) {
		return api.ErrFull
	}
	for i, x := range l {
		if _, ok := firstKnown(known, x.ID); ok || hasSpec(l[:i], x.ID) {
			return api.ErrTwice
		}
	}
	for _, x := range l {
		for _, id := range x.After {
			if _, ok := firstKnown(known, id); !ok && !hasSpec(l, id) {
				return api.ErrName
			}
		}
	}
	for _, x := range l {
		for _, id := range x.After {
			if status, ok := firstKnown(known, id); ok && (status == 5 || status == 6) {
				return api.ErrState
			}
		}
	}
	for _, x := range l {
		if comesAfter(l, x.ID, x.ID, nil) {
			return api.ErrRing
		}
	}
	return api.OK
}

// comesAfter: does a spec of the one ID come after the other ID, through others too?
func comesAfter(l []api.Spec, id, other int, seen []int) bool {
	for _, x := range l {
		if x.ID != id {
			continue
		}
		for _, n := range x.After {
			if n == other {
				return true
			}
			if !slices.Contains(seen, n) && comesAfter(l, n, other, append(seen, n)) {
				return true
			}
		}
	}
	return false
}

func reckonFree(known []api.Task, l []api.Spec) []int {
	var ids []int
	for _, x := range l {
		free := true
		for _, id := range x.After {
			if status, ok := firstKnown(known, id); !ok || status != 4 {
				free = false
			}
		}
		if free {
			ids = append(ids, x.ID)
		}
	}
	return ids
}

// reckonOrder looks for the least number that may be told next, over and over.
func reckonOrder(l []api.Spec) ([]int, bool) {
	var told []int
	for {
		next, found := 0, false
		for _, x := range l {
			if !slices.Contains(told, x.ID) && mayBeTold(l, told, x.ID) && (!found || x.ID < next) {
				next, found = x.ID, true
			}
		}
		if !found {
			break
		}
		told = append(told, next)
	}
	for _, x := range l {
		if !slices.Contains(told, x.ID) {
			return told, false
		}
	}
	return told, true
}

func mayBeTold(l []api.Spec, told []int, id int) bool {
	for _, x := range l {
		if x.ID != id {
			continue
		}
		for _, n := range x.After {
			if hasSpec(l, n) && !slices.Contains(told, n) {
				return false
			}
		}
	}
	return true
}

// brief is a text that is short enough to be looked at.
func brief(known []api.Task, l []api.Spec) string {
	text := "known"
	for _, t := range known {
		text += fmt.Sprintf(" %d (%d)", t.Spec.ID, t.Status)
	}
	text += ", batch"
	for _, x := range l {
		text += fmt.Sprintf(" %d after %d", x.ID, x.After)
	}
	if len(text) > 400 {
		text = text[:400] + " and so on"
	}
	return text
}

func compare(t *testing.T, room int, known []api.Task, l []api.Spec) sight {
	t.Helper()
	got, want := see(room, known, l), reckon(room, known, l)
	if !got.is(want) {
		t.Fatalf("room %d, %s: %v, not %v", room, brief(known, l), got, want)
	}
	return got
}

func wantCheck(t *testing.T, what string, want api.Errno, room int, known []api.Task, l []api.Spec) {
	t.Helper()
	if got := Check(room, known, l); got != want {
		t.Errorf("%s: Check with room %d, %s: %d, not %d", what, room, brief(known, l), got, want)
	}
}

func wantFree(t *testing.T, known []api.Task, l []api.Spec, want ...int) {
	t.Helper()
	if got := Free(known, l); !slices.Equal(got, want) {
		t.Errorf("Free, %s: %d, not %d", brief(known, l), got, want)
	}
}

func wantOrder(t *testing.T, l []api.Spec, whole bool, want ...int) {
	t.Helper()
	if got, is := Order(l); is != whole || !slices.Equal(got, want) {
		t.Errorf("Order, %s: %d, %t, not %d, %t", brief(nil, l), got, is, want, whole)
	}
}

func TestP2301Admitted(t *testing.T) {
	all := tasks(known(1, api.Pending), known(2, api.Ready), known(3, api.Leased), known(4, api.Over))
	for _, l := range [][]api.Spec{
		specs(spec(9)),
		specs(spec(9), spec(10)),
		specs(spec(10), spec(9)),
		specs(spec(9, 1), spec(10, 2), spec(11, 3), spec(12, 4)),
		specs(spec(9, 1, 2, 3, 4, 10, 11, 12, 13), spec(10), spec(11), spec(12), spec(13)),
		specs(spec(9, 10), spec(10, 11), spec(11, 4)),
		row(5, 60),
		backward(row(5, 60)),
		specs(api.Spec{
			ID: 999, Prio: api.MaxPrio, Skill: math.MaxUint64, Gear: math.MaxUint64,
			From: api.Point{X: -1000, Y: 1000}, To: api.Point{X: 1000, Y: -1000}, After: []int{4},
		}),
	} {
		wantCheck(t, "admitted", api.OK, 64, all, l)
	}
}

func TestP2301NoSpec(t *testing.T) {
	for _, room := range []int{least, -1, 0, 1, 64, greatest} {
		for _, known := range [][]api.Task{nil, {}, tasks(known(1, api.Ready)), tasks(known(1, api.Failed), known(1, api.Over))} {
			wantCheck(t, "nil", api.ErrArg, room, known, nil)
			wantCheck(t, "empty", api.ErrArg, room, known, []api.Spec{})
		}
	}
}

// TestP2301SpecsThatAreNone has them at each place, in batches that would be refused by all that is asked later.
func TestP2301SpecsThatAreNone(t *testing.T) {
	none := map[string]struct {
		x api.Spec
		e api.Errno
	}{
		"ID 0":              {api.Spec{}, api.ErrRange},
		"ID 1,000":          {spec(1000), api.ErrRange},
		"ID at the least":   {spec(least), api.ErrRange},
		"Prio below 0":      {api.Spec{ID: 7, Prio: -1}, api.ErrRange},
		"Prio above":        {api.Spec{ID: 7, Prio: api.MaxPrio + 1}, api.ErrRange},
		"From beyond Wide":  {api.Spec{ID: 7, From: api.Point{X: 1001}}, api.ErrRange},
		"To beyond Wide":    {api.Spec{ID: 7, To: api.Point{Y: -1001}}, api.ErrRange},
		"After does not":    {spec(7, 2, 1), api.ErrArg},
		"After twice":       {spec(7, 2, 2), api.ErrArg},
		"After of nine":     {spec(7, 1, 2, 3, 4, 5, 6, 8, 9, 10), api.ErrArg},
		"After 0":           {spec(7, 0), api.ErrArg},
		"After 1,000":       {spec(7, 1000), api.ErrArg},
		"after itself":      {spec(7, 7), api.ErrArg},
		"out of both":       {api.Spec{ID: 1000, After: []int{2, 1}}, api.ErrRange},
		"after itself, too": {spec(7, 6, 7, 8), api.ErrArg},
	}
	for what, n := range none {
		for at := range 4 {
			l := specs(spec(1, 2), spec(1, 3), spec(5, 6))
			l = slices.Insert(l, at, n.x)
			wantCheck(t, what, n.e, 0, tasks(known(2, api.Failed), known(5, api.Ready)), l)
		}
	}
}

func TestP2301FirstSpecsError(t *testing.T) {
	inRange, rising := spec(0), spec(3, 2, 1)
	wantCheck(t, "range first", api.ErrRange, 9, nil, specs(spec(1), inRange, rising))
	wantCheck(t, "After first", api.ErrArg, 9, nil, specs(spec(1), rising, inRange))
}

func TestP2301Room(t *testing.T) {
	for _, many := range []int{0, 1, 5, 63, 64, 200} {
		var l []api.Task
		for id := 1; id <= many; id++ {
			l = append(l, known(id, api.Over))
		}
		for _, more := range []int{1, 2, 64, 300} {
			batch := row(400, 399+more)
			for d := -2; d <= 2; d++ {
				want := api.OK
				if d < 0 {
					want = api.ErrFull
				}
				wantCheck(t, "room", want, many+more+d, l, batch)
			}
			wantCheck(t, "no room", api.ErrFull, 0, l, batch)
			wantCheck(t, "room below 0", api.ErrFull, -1, l, batch)
			wantCheck(t, "least room", api.ErrFull, least, l, batch)
			wantCheck(t, "greatest room", api.OK, greatest, l, batch)
		}
	}
}

// TestP2301RoomOfAll: each known task and each spec needs room, whether its ID comes again or not, and whatever its status.
func TestP2301RoomOfAll(t *testing.T) {
	twins := tasks(known(1, api.Over), known(1, api.Dropped), known(1, api.Failed))
	wantCheck(t, "twins", api.ErrFull, 3, twins, specs(spec(2)))
	wantCheck(t, "twins", api.OK, 4, twins, specs(spec(2)))
	wantCheck(t, "twin specs", api.ErrFull, 2, tasks(known(1, api.Over)), specs(spec(2), spec(2)))
	wantCheck(t, "twin specs", api.ErrTwice, 3, tasks(known(1, api.Over)), specs(spec(2), spec(2)))
}

func TestP2301Twice(t *testing.T) {
	for status := -1; status <= 7; status++ {
		k := tasks(known(5, api.Ready), known(7, status))
		wantCheck(t, "known", api.ErrTwice, 9, k, specs(spec(7)))
		wantCheck(t, "known, last", api.ErrTwice, 9, k, specs(spec(1), spec(2, 1), spec(7, 1, 2)))
	}
	wantCheck(t, "alike", api.ErrTwice, 9, nil, specs(spec(1), spec(1)))
	wantCheck(t, "not alike", api.ErrTwice, 9, nil, specs(spec(1), spec(2), api.Spec{ID: 1, Prio: 5, Skill: 3, After: []int{2}}))
	wantCheck(t, "thrice", api.ErrTwice, 9, nil, specs(spec(1), spec(1), spec(1)))
	wantCheck(t, "999 and again", api.ErrTwice, 9999, nil, append(row(1, 999), spec(500)))
}

func TestP2301Names(t *testing.T) {
	k := tasks(known(5, api.Ready), known(7, api.Over))
	wantCheck(t, "of nobody", api.ErrName, 9, k, specs(spec(1, 2)))
	wantCheck(t, "of nobody, last of all", api.ErrName, 9, k, specs(spec(1), spec(2, 1, 5, 7, 999)))
	wantCheck(t, "of nobody, first of all", api.ErrName, 9, k, specs(spec(2, 1, 5, 7, 999), spec(1)))
	wantCheck(t, "of what a known one comes after", api.ErrName, 9, k, specs(spec(1, 777)))
	wantCheck(t, "of a known one", api.OK, 9, k, specs(spec(1, 5, 7)))
	wantCheck(t, "of a spec behind it", api.OK, 9, k, specs(spec(1, 2), spec(2)))
	wantCheck(t, "of a spec ahead of it", api.OK, 9, k, specs(spec(2), spec(1, 2)))
}

func TestP2301States(t *testing.T) {
	for status := -1; status <= 8; status++ {
		want := api.OK
		if status == api.Failed || status == api.Dropped {
			want = api.ErrState
		}
		k := tasks(known(1, api.Over), known(2, status), known(3, api.Ready))
		wantCheck(t, "alone", want, 9, k, specs(spec(9, 2)))
		wantCheck(t, "last of all", want, 9, k, specs(spec(8, 1), spec(9, 1, 2, 3)))
		wantCheck(t, "first of all", want, 9, k, specs(spec(9, 1, 2, 3), spec(8, 1)))
		wantCheck(t, "not after it", api.OK, 9, k, specs(spec(9, 1, 3), spec(8, 1)))
	}
}

// TestP2301FirstKnownCounts: what comes behind the first one of an ID is not asked.
func TestP2301FirstKnownCounts(t *testing.T) {
	for _, gone := range []int{api.Failed, api.Dropped} {
		wantCheck(t, "first is gone", api.ErrState, 9, tasks(known(1, gone), known(1, api.Over)), specs(spec(2, 1)))
		wantCheck(t, "second is gone", api.OK, 9, tasks(known(1, api.Over), known(1, gone)), specs(spec(2, 1)))
		wantCheck(t, "first is of no status", api.OK, 9, tasks(known(1, 0), known(1, gone)), specs(spec(2, 1)))
	}
	wantFree(t, tasks(known(1, api.Over), known(1, api.Ready)), specs(spec(2, 1)), 2)
	wantFree(t, tasks(known(1, api.Ready), known(1, api.Over)), specs(spec(2, 1)))
	wantFree(t, tasks(known(1, 0), known(1, api.Over)), specs(spec(2, 1)))
}

func TestP2301Rings(t *testing.T) {
	k := tasks(known(50, api.Over), known(51, api.Ready))
	for what, l := range map[string][]api.Spec{
		"of two":              specs(spec(1, 2), spec(2, 1)),
		"of three":            specs(spec(1, 3), spec(2, 1), spec(3, 2)),
		"of the last two":     specs(spec(1), spec(2, 1, 3), spec(3, 2)),
		"behind others":       specs(spec(1), spec(2, 1), spec(3, 2, 4), spec(4, 3, 50)),
		"ahead of others":     specs(spec(1, 2), spec(2, 1), spec(3, 2), spec(4, 3)),
		"beside others":       specs(spec(1), spec(2, 1), spec(3, 4), spec(4, 3, 51)),
		"two rings":           specs(spec(1, 2), spec(2, 1), spec(3, 4), spec(4, 3)),
		"of forty":            append(row(2, 41)[1:], spec(2, 41)),
		"of forty, backward":  backward(append(row(2, 41)[1:], spec(2, 41))),
		"after known ones":    specs(spec(1, 2, 50), spec(2, 1, 51)),
		"with a shorter ring": specs(spec(1, 3), spec(2, 1), spec(3, 1, 2)),
	} {
		wantCheck(t, what, api.ErrRing, 64, k, l)
	}
	wantCheck(t, "of nearly all IDs", api.ErrRing, 999, nil, append(row(2, 999)[1:], spec(1), spec(2, 1, 999)))
	wantCheck(t, "two ways, but no ring", api.OK, 9, k, specs(spec(1), spec(2, 1), spec(3, 1), spec(4, 2, 3)))
}

// TestP2301KnownArrows: what a known task comes after makes no ring.
func TestP2301KnownArrows(t *testing.T) {
	k := tasks(api.Task{Spec: spec(1, 2), Status: api.Pending})
	wantCheck(t, "known one after a spec", api.OK, 9, k, specs(spec(2, 1)))
}

// TestP2301OneAheadOfTheNext takes one fault after the other from a batch that has them all.
func TestP2301OneAheadOfTheNext(t *testing.T) {
	room := 1
	k := tasks(known(20, api.Failed))
	l := specs(
		spec(1, 2), spec(2, 1), // a ring
		spec(3, 20), // after what has failed
		spec(4, 30), // after nothing
		spec(20),    // of a known ID
		spec(5, 5),  // after itself
		spec(0),     // of no ID
	)
	step := func(want api.Errno) {
		t.Helper()
		wantCheck(t, "as it is", want, room, k, l)
		wantCheck(t, "backward", want, room, k, backward(l))
	}
	wantCheck(t, "no batch", api.ErrArg, room, k, nil)
	wantCheck(t, "itself first", api.ErrArg, room, k, l)
	wantCheck(t, "no ID first", api.ErrRange, room, k, backward(l))
	l = l[:6]
	step(api.ErrArg)
	l = l[:5]
	step(api.ErrFull)
	room = 6
	step(api.ErrTwice)
	l = l[:4]
	step(api.ErrName)
	l = l[:3]
	step(api.ErrState)
	l = l[:2]
	step(api.ErrRing)
	l[0] = spec(1)
	step(api.OK)
}

func TestP2302Free(t *testing.T) {
	k := tasks(known(1, api.Over), known(2, api.Over), known(3, api.Ready), known(4, api.Failed), known(5, 0))
	wantFree(t, nil, nil)
	wantFree(t, k, nil)
	wantFree(t, k, []api.Spec{})
	wantFree(t, nil, specs(spec(9), spec(8), spec(7)), 9, 8, 7)
	wantFree(t, k, specs(spec(9), spec(8, 1), spec(7, 1, 2)), 9, 8, 7)
	wantFree(t, k, specs(spec(9, 3), spec(8, 1, 3), spec(7, 3, 1), spec(6, 1, 2)), 6)
	wantFree(t, k, specs(spec(9), spec(8, 9), spec(7, 1, 9), spec(6)), 9, 6)
	wantFree(t, k, specs(spec(9, 10), spec(8, 0), spec(7, 1, 999)))
	wantFree(t, k, specs(spec(9, 4), spec(8, 5)))
	wantFree(t, nil, specs(spec(9, 1)))
	for status := -1; status <= 7; status++ {
		var want []int
		if status == api.Over {
			want = []int{9}
		}
		wantFree(t, tasks(known(1, status)), specs(spec(9, 1)), want...)
	}
}

// TestP2302FreeOfAny: it is told of any lists, also of such as may not be admitted.
func TestP2302FreeOfAny(t *testing.T) {
	k := tasks(known(1, api.Over), known(least, api.Over), known(greatest, api.Over), known(0, api.Ready))
	wantFree(t, k, specs(spec(7), spec(7, 1), spec(7, 2), spec(7, 1, 1)), 7, 7, 7)
	wantFree(t, k, specs(spec(greatest, least), spec(least, greatest, 1, least), spec(0, 0)), greatest, least)
	wantFree(t, k, specs(spec(7, 7), spec(1, 1)), 1)
	wantFree(t, k, specs(spec(1), spec(8, 1)), 1, 8)
}

func TestP2302Order(t *testing.T) {
	wantOrder(t, nil, true)
	wantOrder(t, []api.Spec{}, true)
	wantOrder(t, specs(spec(3), spec(1), spec(2)), true, 1, 2, 3)
	wantOrder(t, specs(spec(3), spec(1, 3), spec(2)), true, 2, 3, 1)
	wantOrder(t, specs(spec(1, 2), spec(2, 3), spec(3)), true, 3, 2, 1)
	wantOrder(t, specs(spec(1, 4), spec(2), spec(3, 2), spec(4, 3)), true, 2, 3, 4, 1)
	wantOrder(t, specs(spec(1, 50), spec(2, 60)), true, 1, 2)
	wantOrder(t, specs(spec(1, 2), spec(2, 1)), false)
	wantOrder(t, specs(spec(1), spec(2, 1, 3), spec(3, 2), spec(4, 1), spec(5, 2)), false, 1, 4)
}

// TestP2302OrderOfAny: several specs of one ID are one number, with the arrows of them all.
func TestP2302OrderOfAny(t *testing.T) {
	wantOrder(t, specs(spec(1), spec(1)), true, 1)
	wantOrder(t, specs(spec(1), spec(2), spec(1, 2)), true, 2, 1)
	wantOrder(t, specs(spec(1, 2), spec(2), spec(1)), true, 2, 1)
	wantOrder(t, specs(spec(1, 2), spec(3), spec(1, 3), spec(2)), true, 2, 3, 1)
	wantOrder(t, specs(spec(1, 2), spec(2), spec(2, 1)), false)
	wantOrder(t, specs(spec(1, 1), spec(2)), false, 2)
	wantOrder(t, specs(spec(1, 2, 2), spec(2)), true, 2, 1)
	wantOrder(t, specs(spec(greatest), spec(least, greatest), spec(0, least, 17), spec(-1)), true, -1, greatest, least, 0)
}

// holdLaws asks of a batch that is admitted what must be so of it, by what is answered alone.
func holdLaws(t *testing.T, room int, known []api.Task, l []api.Spec) {
	t.Helper()
	order, whole := Order(l)
	place := map[int]int{}
	for i, id := range order {
		place[id] = i
	}
	if !whole || len(order) != len(l) || len(place) != len(l) {
		t.Fatalf("%s: Order tells %d, %t", brief(known, l), order, whole)
	}
	for _, x := range l {
		for _, id := range x.After {
			if p, ok := place[id]; ok && p > place[x.ID] {
				t.Fatalf("%s: Order tells %d, where %d comes after %d", brief(known, l), order, x.ID, id)
			}
		}
	}
	last := order[len(order)-1]
	rest := slices.DeleteFunc(slices.Clone(l), func(x api.Spec) bool { return x.ID == last })
	if e := Check(room, known, rest); len(rest) > 0 && e != api.OK {
		t.Fatalf("%s: %d without %d, which is the last one of %d", brief(known, l), e, last, order)
	}
}

// eachOrder tells a list in all orders.
func eachOrder(l []api.Spec, at int, tell func(l []api.Spec)) {
	if at == len(l) {
		tell(slices.Clone(l))
		return
	}
	for i := at; i < len(l); i++ {
		l[at], l[i] = l[i], l[at]
		eachOrder(l, at+1, tell)
		l[at], l[i] = l[i], l[at]
	}
}

func TestP2303AnyOrder(t *testing.T) {
	k := tasks(known(20, api.Over), known(21, api.Ready))
	for what, l := range map[string][]api.Spec{
		"row":         row(1, 6),
		"from one":    specs(spec(1), spec(2, 1), spec(3, 1), spec(4, 1), spec(5, 1), spec(6, 1)),
		"to one":      specs(spec(1, 2, 3, 4, 5, 6), spec(2), spec(3), spec(4), spec(5), spec(6)),
		"known ones":  specs(spec(1, 20), spec(2, 21), spec(3, 1, 2), spec(4, 20, 21), spec(5, 3, 20), spec(6, 4)),
		"all of them": specs(spec(1, 20), spec(2, 1, 20), spec(3, 1, 2, 20), spec(4, 1, 2, 3, 20), spec(5, 1, 2, 3, 4, 20), spec(6, 1, 2, 3, 4, 5, 20)),
	} {
		first := see(9, k, l)
		slices.Sort(first.free)
		eachOrder(slices.Clone(l), 0, func(l []api.Spec) {
			got := compare(t, 9, k, l)
			slices.Sort(got.free)
			if got.e != api.OK || !got.is(first) {
				t.Fatalf("%s: %s: %v, not %v", what, brief(k, l), got, first)
			}
			holdLaws(t, 9, k, l)
		})
	}
}

// subsets are all lists that rise of some of the numbers.
func subsets(numbers ...int) [][]int {
	l := [][]int{nil}
	for _, n := range numbers {
		for _, s := range l {
			l = append(l, append(slices.Clone(s), n))
		}
	}
	return l
}

// littleSpecs are all specs of some IDs after some of the IDs 1 to 4, and one that is none.
func littleSpecs(ids ...int) []api.Spec {
	var l []api.Spec
	for _, id := range ids {
		for _, after := range subsets(1, 2, 3, 4) {
			l = append(l, spec(id, after...))
		}
	}
	return append(l, spec(0, 1))
}

func TestP2303AllLittleBatches(t *testing.T) {
	knowns := [][]api.Task{nil, tasks(known(2, api.Over), known(1, api.Ready)), tasks(known(4, api.Over)), tasks(known(4, api.Failed), known(4, api.Over)), tasks(known(3, api.Pending), known(4, api.Dropped))}
	l := littleSpecs(1, 2, 3)
	admitted := 0
	look := func(known []api.Task, batch ...api.Spec) {
		for room := len(known) + len(batch) - 1; room <= len(known)+len(batch); room++ {
			if compare(t, room, known, batch).e == api.OK {
				holdLaws(t, room, known, batch)
				admitted++
			}
		}
	}
	for _, known := range knowns {
		look(known)
		for _, a := range l {
			look(known, a)
			for _, b := range l {
				look(known, a, b)
			}
		}
	}
	for _, a := range l {
		for _, b := range l {
			for _, c := range littleSpecs(2, 3) {
				look(knowns[2], a, b, c)
			}
		}
	}
	if admitted < 100 {
		t.Errorf("%d batches were admitted", admitted)
	}
}

// mixed is a batch of some IDs, most of them of their own, after some of which there are most.
func mixed(below func(n int) int) (int, []api.Task, []api.Spec) {
	var k []api.Task
	for id := range below(5) {
		status := 1 + below(4)
		if below(6) == 0 {
			status = below(8)
		}
		k = append(k, known(1+id, status))
	}
	if below(3) == 0 {
		k = append(k, known(1+below(6), below(8)))
	}
	var l []api.Spec
	many := below(8)
	for id := range many {
		x := spec(5 + id)
		if below(40) == 0 {
			x.ID = 1 + below(10)
		}
		for range below(4) {
			x.After = append(x.After, 1+below(5+many))
		}
		slices.Sort(x.After)
		if below(40) > 0 {
			x.After = slices.DeleteFunc(slices.Compact(x.After), func(n int) bool { return n == x.ID })
		}
		l = append(l, x)
	}
	for i := range l {
		j := below(i + 1)
		l[i], l[j] = l[j], l[i]
	}
	return len(k) + len(l) - 1 + below(9), k, l
}

func TestMixedBatches(t *testing.T) {
	below := lcg(23)
	seen := map[api.Errno]int{}
	for range 60_000 {
		room, k, l := mixed(below)
		e := compare(t, room, k, l).e
		seen[e]++
		if e == api.OK {
			holdLaws(t, room, k, l)
		}
	}
	for _, e := range []api.Errno{api.OK, api.ErrArg, api.ErrFull, api.ErrTwice, api.ErrName, api.ErrState, api.ErrRing} {
		if seen[e] < 500 {
			t.Errorf("error %d: %d times", e, seen[e])
		}
	}
}

// TestManyOfThem: lists of a hundred thousand end soon.
func TestManyOfThem(t *testing.T) {
	const many = 100_000
	var k []api.Task
	for id := many; id > 0; id-- {
		k = append(k, known(id, api.Over))
	}
	wantMany := func(what string, want api.Errno, l []api.Spec) {
		t.Helper()
		if got := Check(greatest, k, l); got != want {
			t.Errorf("%s: %d, not %d", what, got, want)
		}
	}
	var alike, long []api.Spec
	for id := 1; id <= many; id++ {
		alike = append(alike, spec(1+id%999))
		long = append(long, spec(many+id, many+id-1))
	}
	wantMany("known IDs", api.ErrTwice, alike)
	k = k[:many-999]
	wantMany("IDs that come again", api.ErrTwice, alike)
	wantMany("just all IDs", api.OK, alike[:999])
	if got := Free(k, long); !slices.Equal(got, []int{many + 1}) {
		t.Errorf("Free of a long row: %d numbers", len(got))
	}
	order, whole := Order(backward(long))
	if !whole || len(order) != many || order[0] != many+1 || order[many-1] != 2*many {
		t.Errorf("Order of a long row: %d numbers, %t", len(order), whole)
	}
}

// TestArgumentsStay: neither what is handed in nor its spare room is changed.
func TestArgumentsStay(t *testing.T) {
	below := lcg(5)
	for range 2000 {
		room, k, l := mixed(below)
		k = append(k, known(500, 50), known(501, 51))[:len(k)]
		l = append(l, spec(500, 9, 8), spec(501))[:len(l)]
		for i := range l {
			l[i].After = append(l[i].After, 600, 601)[:len(l[i].After)]
		}
		show := func() string {
			text := fmt.Sprint(k[:cap(k)], l[:cap(l)])
			for _, x := range l {
				text += fmt.Sprint(x.After[:cap(x.After)])
			}
			return text
		}
		before := show()
		first := see(room, k, l)
		for range 2 {
			if again := see(room, k, l); !again.is(first) {
				t.Fatalf("%v, and then %v", first, again)
			}
		}
		if after := show(); after != before {
			t.Fatalf("%s became %s", before, after)
		}
	}
}

// TestAnswersStay: whoever changes what was told changes neither the batch nor what is told later.
func TestAnswersStay(t *testing.T) {
	k, l := tasks(known(1, api.Over)), specs(spec(2, 1), spec(3), spec(4, 2))
	first := see(9, k, l)
	free, order := Free(k, l), slices.Concat(first.order)
	told, _ := Order(l)
	for i := range free {
		free[i] = -1
	}
	for i := range told {
		told[i] = -1
	}
	if again := see(9, k, l); !again.is(first) || !slices.Equal(order, []int{2, 3, 4}) {
		t.Errorf("%v, and then %v", first, again)
	}
}

func TestExamplesOfTheChapter(t *testing.T) {
	wantCheck(t, "example 1", api.OK, 64, nil, specs(spec(1), spec(2, 1)))
	wantFree(t, nil, specs(spec(1), spec(2, 1)), 1)
	wantCheck(t, "example 2", api.ErrRing, 64, nil, specs(spec(1, 2), spec(2, 1)))
}

// batchOfBytes makes a room, known tasks and specs of any bytes.
func batchOfBytes(p []byte) (int, []api.Task, []api.Spec) {
	take := func() int {
		if len(p) == 0 {
			return 0
		}
		n := int(p[0])
		p = p[1:]
		return n
	}
	room := take() - 2
	var k []api.Task
	for range take() % 8 {
		k = append(k, known(take()%16, take()%8))
	}
	var l []api.Spec
	for range take() % 8 {
		x := api.Spec{ID: take() % 16, Prio: take() - 1}
		for range take() % 10 {
			x.After = append(x.After, take()%16)
		}
		l = append(l, x)
	}
	return room, k, l
}

func FuzzBatch(f *testing.F) {
	f.Add([]byte{9, 0, 2, 1, 1, 0, 2, 1, 1, 1})
	f.Add([]byte{9, 1, 3, 5, 1, 1, 1, 1, 3})
	f.Fuzz(func(t *testing.T, p []byte) {
		room, k, l := batchOfBytes(p)
		if compare(t, room, k, l).e == api.OK {
			holdLaws(t, room, k, l)
		}
	})
}
