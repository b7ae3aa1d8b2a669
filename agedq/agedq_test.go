package agedq

import (
	"fmt"
	"math"
	"slices"
	"strings"
	"testing"

	"tallyman/age"
	"tallyman/api"
)

const (
	least    = math.MinInt
	greatest = math.MaxInt
	// These stand here by the chapters' digits, not by api's names.
	fullPrio = 1_048_575
	lastTick = 2_147_483_647
	topRate  = 1_048_576
)

// Edges are numbers at both ends of what counts, at both ends of an int, and such as count as others if their upper bits are lost.

func prioEdges() []int {
	return []int{least, -1<<32 + 5, -1, 0, 1, 5, fullPrio - 2, fullPrio - 1, fullPrio, fullPrio + 1, 1<<32 + 5, greatest}
}

func tickEdges() []int {
	return []int{least, -1<<31 + 7, -1, 0, 1, 9, 1 << 20, lastTick - fullPrio, lastTick - 1, lastTick, lastTick + 1, 1<<32 + 9, greatest}
}

func rateEdges() []int {
	return []int{least, -1<<32 + 3, -1, 0, 1, 2, 1000, topRate - 1, topRate, topRate + 1, 1<<32 + 1, greatest}
}

// numberEdges are any numbers, for seqs and IDs, whose differences leave an int.
func numberEdges() []int {
	return []int{least, least + 1, -1 << 32, -1, 0, 1, 2, 1 << 32, 1<<32 + 1, greatest - 1, greatest}
}

func nearest(n, most int) int {
	if n < 0 {
		return 0
	}
	if n > most {
		return most
	}
	return n
}

// asked is a queue, be it this package's or a reckoned one.
type asked interface {
	Put(x api.Item) api.Errno
	Drop(id int) bool
	To(now int)
	Now() int
	First() (int, bool)
	Find(id int) (api.Item, bool)
	List() []int
	Len() int
}

// reckoned is a queue by the chapters' words: items as they came, looked through each time.
type reckoned struct {
	rate, now int
	items     []api.Item
}

func reckon(rate, now int) *reckoned {
	return &reckoned{rate: nearest(rate, topRate), now: nearest(now, lastTick)}
}

func (r *reckoned) Put(x api.Item) api.Errno {
	x.Prio, x.Since = nearest(x.Prio, fullPrio), nearest(x.Since, lastTick)
	if x.Since > r.now {
		return api.ErrState
	}
	if _, ok := r.Find(x.ID); ok {
		return api.ErrTwice
	}
	r.items = append(r.items, x)
	return api.OK
}

func (r *reckoned) Drop(id int) bool {
	before := r.Len()
	r.items = slices.DeleteFunc(r.items, func(x api.Item) bool { return x.ID == id })
	return r.Len() < before
}

func (r *reckoned) To(now int) {
	if now = nearest(now, lastTick); now > r.now {
		r.now = now
	}
}

func (r *reckoned) Now() int { return r.now }

func (r *reckoned) First() (int, bool) {
	for _, x := range r.items {
		if !slices.ContainsFunc(r.items, func(y api.Item) bool { return r.ahead(y, x) }) {
			return x.ID, true
		}
	}
	return 0, false
}

func (r *reckoned) Find(id int) (api.Item, bool) {
	for _, x := range r.items {
		if x.ID == id {
			return x, true
		}
	}
	return api.Item{}, false
}

// List gives each item the place of as many as are ahead of it.
func (r *reckoned) List() []int {
	ids := make([]int, len(r.items))
	for _, x := range r.items {
		n := 0
		for _, y := range r.items {
			if r.ahead(y, x) {
				n++
			}
		}
		ids[n] = x.ID
	}
	return ids
}

func (r *reckoned) Len() int { return len(r.items) }

// aged needs no more than 2^20 + 2^20 times 2^31.
func (r *reckoned) aged(x api.Item) int {
	return nearest(x.Prio+r.rate*(r.now-x.Since), fullPrio)
}

func (r *reckoned) ahead(x, y api.Item) bool {
	if p, q := r.aged(x), r.aged(y); p != q {
		return p > q
	}
	if x.Seq != y.Seq {
		return x.Seq < y.Seq
	}
	return x.ID < y.ID
}

// act is something that a queue goes through; it tells what was answered.
type act struct {
	what string
	do   func(q asked) string
}

func put(x api.Item) act {
	return act{fmt.Sprintf("Put(%+v)", x), func(q asked) string { return fmt.Sprint(int(q.Put(x))) }}
}

func drop(id int) act {
	return act{fmt.Sprintf("Drop(%d)", id), func(q asked) string { return fmt.Sprint(q.Drop(id)) }}
}

func to(now int) act {
	return act{fmt.Sprintf("To(%d)", now), func(q asked) string { q.To(now); return "" }}
}

// dropFirst takes the one that is ahead of all.
func dropFirst() act {
	return act{"Drop of the first", func(q asked) string {
		id, ok := q.First()
		return fmt.Sprint(id, ok, ok && q.Drop(id))
	}}
}

// play does the acts with a queue and a reckoned one, asks that each act is answered alike, and that they hold alike at the end.
func play(t *testing.T, rate, now int, acts ...act) {
	t.Helper()
	q, r := New(rate, now), reckon(rate, now)
	for i, a := range acts {
		if got, want := a.do(q), a.do(r); got != want {
			t.Fatalf("%s: %s, not %s", row(rate, now, acts[:i+1]), got, want)
		}
	}
	holdAlike(t, func() string { return row(rate, now, acts) }, q, r)
}

func row(rate, now int, acts []act) string {
	var b strings.Builder
	fmt.Fprintf(&b, "New(%d, %d)", rate, now)
	for _, a := range acts {
		b.WriteString(", " + a.what)
	}
	return b.String()
}

// holdAlike asks for all that is in them, without a change; what happened is spelt out only where they differ.
func holdAlike(t *testing.T, what func() string, q *Queue, r *reckoned) {
	t.Helper()
	if q.Now() != r.Now() || q.Len() != r.Len() {
		t.Fatalf("%s: Now %d, Len %d, not %d, %d", what(), q.Now(), q.Len(), r.Now(), r.Len())
	}
	id, ok := q.First()
	wantID, wantOK := r.First()
	if id != wantID || ok != wantOK {
		t.Fatalf("%s: First: %d %t, not %d %t", what(), id, ok, wantID, wantOK)
	}
	if l, want := q.List(), r.List(); !slices.Equal(l, want) {
		t.Fatalf("%s: List: %d, not %d", what(), l, want)
	}
	for _, x := range r.items {
		if got, ok := q.Find(x.ID); got != x || !ok {
			t.Fatalf("%s: Find(%d): %+v %t, not %+v", what(), x.ID, got, ok, x)
		}
	}
}

// runDown takes what is ahead of all, one by one: whatever the queue is like inside, all must come in their order.
func runDown(t *testing.T, what string, q *Queue, order []int) {
	t.Helper()
	for _, want := range order {
		if id, ok := q.First(); id != want || !ok {
			t.Fatalf("%s: First: %d %t, not %d", what, id, ok, want)
		}
		wantBool(t, what+": Drop of the first", q.Drop(want), true)
		wantFind(t, q, want, api.Item{}, false)
	}
	wantNothing(t, what+", and all dropped", q, q.Now())
}

func wantPut(t *testing.T, q *Queue, x api.Item, want api.Errno) {
	t.Helper()
	if got := q.Put(x); got != want {
		t.Errorf("Put(%+v): %d, not %d", x, got, want)
	}
}

func wantBool(t *testing.T, what string, got, want bool) {
	t.Helper()
	if got != want {
		t.Errorf("%s: %t, not %t", what, got, want)
	}
}

func wantFirst(t *testing.T, q *Queue, id int, ok bool) {
	t.Helper()
	if x, y := q.First(); x != id || y != ok {
		t.Errorf("First: %d %t, not %d %t", x, y, id, ok)
	}
}

func wantFind(t *testing.T, q *Queue, id int, x api.Item, ok bool) {
	t.Helper()
	if y, found := q.Find(id); y != x || found != ok {
		t.Errorf("Find(%d): %+v %t, not %+v %t", id, y, found, x, ok)
	}
}

// wantList asks for First and Len too.
func wantList(t *testing.T, q *Queue, ids ...int) {
	t.Helper()
	if l := q.List(); !slices.Equal(l, ids) {
		t.Errorf("List: %d, not %d", l, ids)
	}
	if q.Len() != len(ids) {
		t.Errorf("Len: %d, not %d", q.Len(), len(ids))
	}
	if len(ids) > 0 {
		wantFirst(t, q, ids[0], true)
	} else {
		wantFirst(t, q, 0, false)
	}
}

func wantNow(t *testing.T, q *Queue, want int) {
	t.Helper()
	if got := q.Now(); got != want {
		t.Errorf("Now: %d, not %d", got, want)
	}
}

// wantNothing asks such IDs too as nothing might be mistaken for.
func wantNothing(t *testing.T, what string, q *Queue, now int) {
	t.Helper()
	id, ok := q.First()
	if id != 0 || ok || q.Len() != 0 || len(q.List()) != 0 || q.Now() != now {
		t.Errorf("%s: First: %d %t, Len: %d, List: %d, Now: %d", what, id, ok, q.Len(), q.List(), q.Now())
	}
	for _, id := range numberEdges() {
		wantFind(t, q, id, api.Item{}, false)
		wantBool(t, what+": Drop", q.Drop(id), false)
	}
}

func TestP1501New(t *testing.T) {
	for _, rate := range rateEdges() {
		for _, now := range tickEdges() {
			q := New(rate, now)
			if q == nil {
				t.Fatalf("New(%d, %d): nil", rate, now)
			}
			wantNothing(t, "New", q, nearest(now, lastTick))
		}
	}
	q, other := New(1, 5), New(0, 6)
	wantPut(t, q, api.Item{ID: 1, Since: 5}, api.OK)
	wantNothing(t, "beside another one", other, 6)
	wantPut(t, other, api.Item{ID: 4, Since: 6, Prio: fullPrio}, api.OK)
	wantBool(t, "Drop of the other one's", q.Drop(4), false)
	other.To(90)
	wantList(t, q, 1)
	wantNow(t, q, 5)
	wantList(t, other, 4)
}

func TestP1501Put(t *testing.T) {
	q := New(1, 20)
	wantPut(t, q, api.Item{ID: 1, Prio: 5, Since: 10, Seq: 3}, api.OK)
	wantFind(t, q, 1, api.Item{ID: 1, Prio: 5, Since: 10, Seq: 3}, true)
	wantList(t, q, 1)
	wantPut(t, q, api.Item{ID: 2, Prio: 16, Since: 20, Seq: 4}, api.OK)
	wantList(t, q, 2, 1)
	wantPut(t, q, api.Item{}, api.OK)
	wantFind(t, q, 0, api.Item{}, true)
	wantList(t, q, 0, 2, 1)
	wantPut(t, q, api.Item{ID: -4, Prio: fullPrio, Since: 20, Seq: 8}, api.OK)
	wantPut(t, q, api.Item{ID: 9, Prio: fullPrio - 15, Since: 5, Seq: 7}, api.OK)
	wantList(t, q, 9, -4, 0, 2, 1)
	wantBool(t, "Drop", q.Drop(2), true)
	wantPut(t, q, api.Item{ID: 2, Prio: 1, Since: 20, Seq: 5}, api.OK)
	wantFind(t, q, 2, api.Item{ID: 2, Prio: 1, Since: 20, Seq: 5}, true)
	wantList(t, q, 9, -4, 0, 1, 2)
	wantBool(t, "Drop of a full one", q.Drop(9), true)
	wantPut(t, q, api.Item{ID: 9}, api.OK)
	wantList(t, q, -4, 0, 9, 1, 2)
}

// TestP1501PutAboveTheTime: what counts is held against the time that counts.
func TestP1501PutAboveTheTime(t *testing.T) {
	for _, now := range append(tickEdges(), 20, lastTick-2) {
		at := nearest(now, lastTick)
		for _, since := range append(tickEdges(), at-1, at, at+1) {
			q, x := New(1, now), api.Item{ID: 1, Prio: 2, Since: since, Seq: 3}
			if nearest(since, lastTick) > at {
				wantPut(t, q, x, api.ErrState)
				wantNothing(t, "Put above the time", q, at)
			} else {
				wantPut(t, q, x, api.OK)
				wantFind(t, q, 1, api.Item{ID: 1, Prio: 2, Since: nearest(since, lastTick), Seq: 3}, true)
			}
		}
	}
	q := New(1, 20)
	x := api.Item{ID: 3, Since: 22}
	wantPut(t, q, x, api.ErrState)
	q.To(21)
	wantPut(t, q, x, api.ErrState)
	q.To(22)
	wantPut(t, q, x, api.OK)
	q.To(5)
	wantPut(t, q, api.Item{ID: 4, Since: 22}, api.OK)
	wantList(t, q, 3, 4)
	last := New(1, lastTick)
	wantPut(t, last, api.Item{ID: 5, Since: lastTick + 1}, api.OK)
	wantPut(t, last, api.Item{ID: 6, Since: greatest}, api.OK)
	wantList(t, last, 5, 6)
	ahead := New(1, lastTick-1)
	wantPut(t, ahead, api.Item{ID: 5, Since: lastTick}, api.ErrState)
	wantPut(t, ahead, api.Item{ID: 6, Since: greatest}, api.ErrState)
	wantNothing(t, "Put above the time", ahead, lastTick-1)
}

// TestP1501PutTwice leaves the one that is there, whether it grows or is full.
func TestP1501PutTwice(t *testing.T) {
	q := New(1, 20)
	x, full := api.Item{ID: 1, Prio: 5, Since: 10, Seq: 3}, api.Item{ID: 2, Prio: fullPrio - 2, Since: 18, Seq: 9}
	wantPut(t, q, x, api.OK)
	wantPut(t, q, full, api.OK)
	for _, y := range []api.Item{x, {ID: 1}, {ID: 1, Prio: 99, Since: 20}, {ID: 1, Prio: fullPrio}, full, {ID: 2}, {ID: 2, Prio: fullPrio, Since: 20, Seq: -1}, {ID: 2, Since: -5}} {
		wantPut(t, q, y, api.ErrTwice)
		wantFind(t, q, 1, x, true)
		wantFind(t, q, 2, full, true)
		wantList(t, q, 2, 1)
	}
	// Nor does time bring what was refused.
	wantPut(t, q, api.Item{ID: 3, Prio: 14, Since: 20, Seq: 1}, api.OK)
	q.To(25)
	wantList(t, q, 2, 1, 3)
	// A Since above the time is told ahead of that.
	wantPut(t, q, api.Item{ID: 1, Since: 26}, api.ErrState)
	wantPut(t, q, api.Item{ID: 2, Since: greatest}, api.ErrState)
	wantPut(t, q, api.Item{ID: 1, Since: 25}, api.ErrTwice)
	q.To(lastTick)
	wantPut(t, q, api.Item{ID: 1, Since: greatest}, api.ErrTwice)
	wantList(t, q, 3, 1, 2)
	wantBool(t, "Drop", q.Drop(1), true)
	wantBool(t, "Drop again", q.Drop(1), false)
	wantPut(t, q, api.Item{ID: 1, Since: greatest}, api.OK)
	wantList(t, q, 3, 2, 1)
}

func TestP1501Drop(t *testing.T) {
	q := New(2, 0)
	wantBool(t, "Drop of none", q.Drop(1), false)
	for id := 1; id <= 5; id++ {
		wantPut(t, q, api.Item{ID: id, Prio: 10 * id, Seq: -id}, api.OK)
	}
	wantPut(t, q, api.Item{ID: 6, Prio: fullPrio, Seq: 1}, api.OK)
	wantPut(t, q, api.Item{ID: 7, Prio: fullPrio - 4, Seq: 0}, api.OK)
	wantPut(t, q, api.Item{ID: 8, Prio: fullPrio - 3, Seq: 2}, api.OK)
	wantBool(t, "Drop of another ID", q.Drop(9), false)
	wantBool(t, "Drop of 0", q.Drop(0), false)
	wantBool(t, "Drop of a Prio", q.Drop(50), false)
	wantBool(t, "Drop of a Seq", q.Drop(-5), false)
	wantList(t, q, 6, 8, 7, 5, 4, 3, 2, 1)
	wantBool(t, "Drop of one that nearly is full", q.Drop(8), true)
	wantBool(t, "Drop of it again", q.Drop(8), false)
	q.To(2)
	wantList(t, q, 7, 6, 5, 4, 3, 2, 1)
	wantBool(t, "Drop of one that became full", q.Drop(7), true)
	wantBool(t, "Drop of it again", q.Drop(7), false)
	wantFind(t, q, 7, api.Item{}, false)
	wantBool(t, "Drop of a full one", q.Drop(6), true)
	wantList(t, q, 5, 4, 3, 2, 1)
	wantBool(t, "Drop of the first", q.Drop(5), true)
	wantBool(t, "Drop of the last", q.Drop(1), true)
	wantBool(t, "Drop between", q.Drop(3), true)
	wantList(t, q, 4, 2)
	q.To(lastTick)
	wantList(t, q, 4, 2)
	wantBool(t, "Drop", q.Drop(4) && q.Drop(2), true)
	wantNothing(t, "Drop of all", q, lastTick)
}

func TestP1502ToAndNow(t *testing.T) {
	for _, from := range tickEdges() {
		for _, now := range append(tickEdges(), from-1, from, from+1) {
			q := New(1, from)
			wantNow(t, q, nearest(from, lastTick))
			q.To(now)
			later := max(nearest(from, lastTick), nearest(now, lastTick))
			wantNow(t, q, later)
			// It never goes back.
			q.To(from)
			q.To(-1)
			q.To(least)
			q.To(0)
			q.To(later - 1)
			wantNow(t, q, later)
			wantNothing(t, "To", q, later)
		}
	}
	q := New(1, 5)
	for _, x := range []struct{ to, now int }{{5, 5}, {6, 6}, {3, 6}, {9, 9}, {-9, 9}, {lastTick - 1, lastTick - 1}, {lastTick + 5, lastTick}, {greatest, lastTick}, {least, lastTick}} {
		q.To(x.to)
		wantNow(t, q, x.now)
	}
}

// TestP1502ToChangesNothingElse: the items stay as they were put, and time that would go back is nothing to their order.
func TestP1502ToChangesNothingElse(t *testing.T) {
	q := New(3, 10)
	items := []api.Item{{ID: 1, Prio: 5, Since: 9, Seq: 1}, {ID: 2, Prio: fullPrio - 6, Since: 10, Seq: 3}, {ID: 3, Prio: fullPrio, Since: 0, Seq: 7}, {ID: 4}}
	for _, x := range items {
		wantPut(t, q, x, api.OK)
	}
	wantList(t, q, 3, 2, 4, 1)
	for _, x := range []struct {
		to   int
		list []int
	}{{11, []int{3, 2, 4, 1}}, {12, []int{2, 3, 4, 1}}, {11, []int{2, 3, 4, 1}}, {10, []int{2, 3, 4, 1}}, {-1, []int{2, 3, 4, 1}}, {lastTick, []int{4, 1, 2, 3}}, {12, []int{4, 1, 2, 3}}} {
		q.To(x.to)
		wantList(t, q, x.list...)
		for _, y := range items {
			wantFind(t, q, y.ID, y, true)
		}
	}
}

func TestP1503First(t *testing.T) {
	q := New(2, 12)
	wantFirst(t, q, 0, false)
	wantPut(t, q, api.Item{ID: 1, Prio: 5, Since: 10, Seq: 3}, api.OK)
	wantFirst(t, q, 1, true)
	// First takes nothing away.
	wantFirst(t, q, 1, true)
	wantPut(t, q, api.Item{ID: 2, Prio: 9, Since: 12, Seq: 1}, api.OK)
	wantFirst(t, q, 2, true)
	wantPut(t, q, api.Item{ID: 3, Prio: 9, Since: 12, Seq: 2}, api.OK)
	wantFirst(t, q, 2, true)
	wantPut(t, q, api.Item{ID: -2, Prio: 9, Since: 12, Seq: 1}, api.OK)
	wantFirst(t, q, -2, true)
	wantPut(t, q, api.Item{ID: 0, Prio: 10, Since: 12, Seq: 99}, api.OK)
	wantFirst(t, q, 0, true)
	wantPut(t, q, api.Item{ID: 8, Prio: 10, Since: 11, Seq: 100}, api.OK)
	wantFirst(t, q, 8, true)
	wantPut(t, q, api.Item{ID: 7, Prio: fullPrio, Since: 11, Seq: 101}, api.OK)
	wantFirst(t, q, 7, true)
	wantPut(t, q, api.Item{ID: 6, Prio: fullPrio - 24, Since: 0, Seq: 100}, api.OK)
	wantFirst(t, q, 6, true)
	runDown(t, "First", q, []int{6, 7, 8, 0, -2, 2, 3, 1})
}

// TestP1503FirstAsTimeGoes: what is full is ahead of what grows, and the lesser seq tells of what is full.
func TestP1503FirstAsTimeGoes(t *testing.T) {
	q := New(1, 0)
	wantPut(t, q, api.Item{ID: 1, Prio: fullPrio - 30, Seq: 1}, api.OK)
	wantPut(t, q, api.Item{ID: 2, Prio: fullPrio - 20, Seq: 2}, api.OK)
	wantPut(t, q, api.Item{ID: 3, Prio: fullPrio - 10, Seq: 3}, api.OK)
	wantPut(t, q, api.Item{ID: 4, Prio: fullPrio - 9, Seq: 4}, api.OK)
	for _, x := range []struct{ to, first int }{{0, 4}, {8, 4}, {9, 4}, {10, 3}, {19, 3}, {20, 2}, {29, 2}, {30, 1}, {31, 1}, {lastTick, 1}} {
		q.To(x.to)
		wantFirst(t, q, x.first, true)
	}
	wantList(t, q, 1, 2, 3, 4)
}

// TestP1503FindTellsWhatCounts: the Prio and the Since that count are kept; the ID and the seq are any numbers.
func TestP1503FindTellsWhatCounts(t *testing.T) {
	for _, prio := range prioEdges() {
		for _, since := range tickEdges() {
			for _, n := range numberEdges() {
				q := New(1, lastTick)
				wantPut(t, q, api.Item{ID: n, Prio: prio, Since: since, Seq: ^n}, api.OK)
				wantFind(t, q, n, api.Item{ID: n, Prio: nearest(prio, fullPrio), Since: nearest(since, lastTick), Seq: ^n}, true)
				wantFind(t, q, ^n, api.Item{}, false)
				wantFind(t, q, n^1, api.Item{}, false)
				wantList(t, q, n)
			}
		}
	}
}

func TestP1503List(t *testing.T) {
	q := New(1, 20)
	wantList(t, q)
	wantPut(t, q, api.Item{ID: 9, Prio: 6, Since: 20, Seq: 9}, api.OK)
	wantPut(t, q, api.Item{ID: 3, Prio: 5, Since: 20, Seq: 2}, api.OK)
	wantPut(t, q, api.Item{ID: 8, Prio: 5, Since: 20, Seq: 1}, api.OK)
	wantPut(t, q, api.Item{ID: 1, Prio: 0, Since: 15, Seq: 2}, api.OK)
	wantList(t, q, 9, 8, 1, 3)
	wantPut(t, q, api.Item{ID: 7, Prio: fullPrio, Since: 20, Seq: 2}, api.OK)
	wantPut(t, q, api.Item{ID: 6, Prio: greatest, Since: 0, Seq: 2}, api.OK)
	wantPut(t, q, api.Item{ID: 5, Prio: fullPrio - 5, Since: 15, Seq: 3}, api.OK)
	wantPut(t, q, api.Item{ID: 4, Prio: fullPrio - 5, Since: 16, Seq: 1}, api.OK)
	wantList(t, q, 6, 7, 5, 4, 9, 8, 1, 3)
	q.To(21)
	wantList(t, q, 4, 6, 7, 5, 9, 8, 1, 3)
	// List takes nothing away.
	wantList(t, q, 4, 6, 7, 5, 9, 8, 1, 3)
	runDown(t, "List", q, []int{4, 6, 7, 5, 9, 8, 1, 3})
}

// TestP1503ListIsNewMemory: whoever changes it changes no queue, and what becomes of the queue later is nothing to it.
func TestP1503ListIsNewMemory(t *testing.T) {
	for _, full := range []int{0, 4, 9} {
		q := New(1, 5)
		for id := range 9 {
			x := api.Item{ID: id, Prio: id, Since: 2, Seq: id}
			if id < full {
				x.Prio = fullPrio
			}
			wantPut(t, q, x, api.OK)
		}
		l, other := q.List(), q.List()
		told := slices.Clone(l)
		clear(other)
		q.Drop(4)
		q.To(9)
		wantPut(t, q, api.Item{ID: 50, Prio: fullPrio, Since: 9, Seq: -1}, api.OK)
		q.List()
		if !slices.Equal(l, told) {
			t.Errorf("List told %d, and that became %d", told, l)
		}
		q.Drop(50)
		wantList(t, q, slices.DeleteFunc(told, func(id int) bool { return id == 4 })...)
	}
}

func TestP1503Len(t *testing.T) {
	q := New(1, 30)
	for n := range 40 {
		if q.Len() != n {
			t.Errorf("Len: %d, not %d", q.Len(), n)
		}
		q.Put(api.Item{ID: n, Prio: fullPrio - n, Since: 10})
		q.Put(api.Item{ID: n, Prio: n})
		q.Put(api.Item{ID: n + 100, Since: 40})
		q.To(n)
	}
	for n := 40; n > 0; n-- {
		if q.Len() != n {
			t.Errorf("Len: %d, not %d", q.Len(), n)
		}
		q.Drop(n - 1)
		q.Drop(n - 1)
	}
	wantNothing(t, "Drop of all", q, 39)
}

// TestP1503TwoItemsAtTheEdges: two items whose Prios, Sinces, seqs and IDs lie at both ends, by all rates, as time goes.
func TestP1503TwoItemsAtTheEdges(t *testing.T) {
	for _, rate := range rateEdges() {
		for _, prio := range prioEdges() {
			for _, since := range tickEdges() {
				for _, start := range []int{5, lastTick - 1} {
					acts := []act{put(api.Item{ID: 2, Prio: prio, Since: since, Seq: 3}), put(api.Item{ID: 1, Prio: 4, Since: 3, Seq: 4}), put(api.Item{ID: 3, Prio: fullPrio - 3, Since: 4, Seq: 5})}
					for _, now := range []int{6, 7, 1 << 20, lastTick - 1, greatest} {
						play(t, rate, start, acts...)
						acts = append(acts, to(now))
					}
					play(t, rate, start, acts...)
				}
			}
		}
	}
	for _, a := range numberEdges() {
		for _, b := range numberEdges() {
			for _, prio := range []int{7, fullPrio} {
				play(t, 1, 5, put(api.Item{ID: 1, Prio: prio, Seq: a}), put(api.Item{ID: 2, Prio: prio, Seq: b}))
				play(t, 1, 5, put(api.Item{ID: 2, Prio: prio, Seq: a}), put(api.Item{ID: 1, Prio: prio, Seq: b}))
				play(t, 1, 5, put(api.Item{ID: a, Prio: prio, Seq: 1}), put(api.Item{ID: b, Prio: prio, Seq: 1}))
				play(t, 1, 5, put(api.Item{ID: a, Prio: prio, Seq: b}), put(api.Item{ID: b, Prio: prio, Seq: a}), drop(a))
			}
		}
	}
}

// TestP1503RowsOfActs goes through all rows of a few acts, of which some bring items to be full.
func TestP1503RowsOfActs(t *testing.T) {
	few := []act{
		put(api.Item{ID: 1, Prio: fullPrio - 2, Since: 0, Seq: 2}),
		put(api.Item{ID: 2, Prio: fullPrio - 1, Since: 1, Seq: 3}),
		put(api.Item{ID: 0, Prio: fullPrio, Since: 2, Seq: 3}),
		put(api.Item{ID: 1, Prio: 1, Since: 0, Seq: 1}),
		to(1), to(2), to(0),
		drop(1), drop(2), dropFirst(),
	}
	n := len(few)
	for number := range n * n * n * n * n {
		var acts []act
		for range 5 {
			acts = append(acts, few[number%n])
			number /= n
		}
		play(t, 1, 0, acts...)
	}
}

// anyAct is what a few bits tell: near the edge of being full, and of the time.
func anyAct(w uint32, now int) act {
	id := int(w>>4&15) - 3
	switch w & 15 {
	case 0, 1:
		return dropFirst()
	case 2, 3:
		return drop(id)
	case 4, 5, 6:
		return to(now + int(w>>8&7) - 2)
	}
	x := api.Item{ID: id, Prio: fullPrio + 1 - int(w>>8&31), Since: now + 1 - int(w>>13&15), Seq: int(w>>17&7) - 3}
	if w>>20&3 == 0 {
		x.Prio = int(w >> 22 & 15)
	}
	return put(x)
}

func TestP1503LongRowsOfActs(t *testing.T) {
	for seed := range uint32(120) {
		rate, start := int(seed%7)-1, []int{0, 9, lastTick - 60}[seed%3]
		q, r := New(rate, start), reckon(rate, start)
		w := seed
		for n := range 250 {
			w = w*1664525 + 1013904223
			a := anyAct(w>>13^w, r.Now())
			what := func() string { return fmt.Sprintf("act %d of the row from the seed %d: %s", n, seed, a.what) }
			if got, want := a.do(q), a.do(r); got != want {
				t.Fatalf("%s: %s, not %s", what(), got, want)
			}
			holdAlike(t, what, q, r)
		}
		runDown(t, fmt.Sprintf("the row from the seed %d", seed), q, r.List())
	}
}

// nearlyFull are items that are full, get full within some ticks, or will not; each with an ID of its own.
func nearlyFull(now int) []api.Item {
	var l []api.Item
	for _, missing := range []int{0, 1, 2, 3, 5, 8, 13, 1000, fullPrio} {
		for waited := range 4 {
			id := len(l) + 1
			l = append(l, api.Item{ID: id, Prio: fullPrio - missing, Since: now - waited, Seq: id * 7 % 12})
		}
	}
	return l
}

// filled is a queue with these items, put from the last one on or from the first one.
func filled(t *testing.T, rate, now int, back bool, items []api.Item) (*Queue, *reckoned) {
	t.Helper()
	q, r := New(rate, now), reckon(rate, now)
	for i := range items {
		x := items[i]
		if back {
			x = items[len(items)-1-i]
		}
		wantPut(t, q, x, r.Put(x))
	}
	return q, r
}

// TestP1504FirstIsTheFirstOfList, however time goes: tick by tick, or by leaps; and List is what Sort tells.
func TestP1504FirstIsTheFirstOfList(t *testing.T) {
	for _, rate := range []int{-1, 0, 1, 2, 3, 7, 999, topRate} {
		for _, start := range []int{3, 1000, lastTick - 25} {
			items := nearlyFull(start)
			for leap := 1; leap < 20; leap++ {
				q, r := filled(t, rate, start, leap%2 == 0, items)
				for now := start; now < start+40; now += leap {
					q.To(now)
					r.To(now)
					holdAlike(t, func() string { return fmt.Sprintf("at %d from %d on by %d, rate %d", now, start, leap, rate) }, q, r)
					if l := age.Sort(items, now, rate); !slices.Equal(q.List(), l) {
						t.Fatalf("List at %d, rate %d: %d, but Sort tells %d", now, rate, q.List(), l)
					}
				}
			}
		}
	}
}

// TestP1504FullIsBehindNoGreaterSeq: ahead of what is full stands no item with a greater seq, full or not.
func TestP1504FullIsBehindNoGreaterSeq(t *testing.T) {
	met, grow := 0, 0
	for _, rate := range []int{0, 1, 3, topRate} {
		q, r := filled(t, rate, 9, true, nearlyFull(9))
		for _, now := range []int{9, 10, 11, 12, 13, 17, 22, 30, 1009, 1 << 20, 1<<20 + 9, lastTick} {
			q.To(now)
			r.To(now)
			most := least
			for _, id := range q.List() {
				x, _ := q.Find(id)
				if r.aged(x) < fullPrio {
					grow++
				} else if met++; most > x.Seq {
					t.Fatalf("%+v is full at %d, and stands behind a seq of %d", x, now, most)
				}
				most = max(most, x.Seq)
			}
		}
	}
	if met == 0 || grow == 0 {
		t.Errorf("%d are full, %d are not: the items do not tell", met, grow)
	}
}

// TestP1504FoundTillDropped: neither time nor what else comes and goes takes an item.
func TestP1504FoundTillDropped(t *testing.T) {
	items := nearlyFull(3)
	q, _ := filled(t, 1, 3, false, items)
	for i, x := range items {
		for j, y := range items {
			if j < i {
				wantFind(t, q, y.ID, api.Item{}, false)
			} else {
				wantFind(t, q, y.ID, y, true)
			}
		}
		if q.Len() != len(items)-i {
			t.Errorf("Len: %d, not %d", q.Len(), len(items)-i)
		}
		q.To(3 + i*i)
		wantBool(t, "Drop", q.Drop(x.ID), true)
		wantBool(t, "Drop again", q.Drop(x.ID), false)
	}
	wantNothing(t, "Drop of all", q, q.Now())
}

// TestP1504ManyItems: the first one is at hand at each of many ticks, though there are many items; and all come in the order that is listed.
func TestP1504ManyItems(t *testing.T) {
	const many = 100_003
	q, r := New(3, 1000), reckon(3, 1000)
	for i := range many {
		wantPut(t, q, api.Item{ID: i, Prio: i * 7919 % fullPrio, Since: i * 31 % 997, Seq: i * 17 % 1009}, api.OK)
	}
	for now := 1000; now < 300_000; now++ {
		q.To(now)
		if _, ok := q.First(); !ok {
			t.Fatal("First: none")
		}
	}
	for i := 0; i < many; i += 7 {
		wantBool(t, "Drop", q.Drop(i), true)
	}
	r.To(q.Now())
	l := q.List()
	if len(l) != q.Len() || q.Len() != many-(many+6)/7 {
		t.Fatalf("List: %d items, Len: %d", len(l), q.Len())
	}
	full := 0
	for i, id := range l {
		x, _ := q.Find(id)
		if r.aged(x) == fullPrio {
			full++
		}
		if i > 0 {
			if y, _ := q.Find(l[i-1]); !r.ahead(y, x) {
				t.Fatalf("%+v stands ahead of %+v", y, x)
			}
		}
	}
	if full == 0 || full == len(l) {
		t.Errorf("%d of %d are full: the items do not tell", full, len(l))
	}
	runDown(t, "many", q, l)
}

func TestNilQueue(t *testing.T) {
	var q *Queue
	wantNothing(t, "nil", q, 0)
	for _, n := range numberEdges() {
		wantPut(t, q, api.Item{ID: n, Prio: n, Since: n, Seq: n}, api.ErrState)
		wantPut(t, q, api.Item{ID: n}, api.ErrState)
		q.To(n)
		wantNothing(t, "nil", q, 0)
	}
}

func TestExamplesOfTheChapter(t *testing.T) {
	q := New(1, 20)
	wantPut(t, q, api.Item{ID: 2, Prio: 9, Since: 20}, api.OK)
	wantPut(t, q, api.Item{ID: 1, Prio: 1, Since: 0}, api.OK)
	wantList(t, q, 1, 2)
}

func FuzzQueue(f *testing.F) {
	f.Add([]byte{1, 0, 7, 0x11, 0x04, 0, 8, 0x22, 0x31, 0, 4, 3, 0, 0, 0, 0, 0, 0, 2, 0x20, 0, 0})
	f.Fuzz(func(t *testing.T, b []byte) {
		if len(b) < 2 {
			return
		}
		rate, now := int(b[0])-1, int(b[1])
		if b[1] > 127 {
			now += lastTick - 200
		}
		var acts []act
		for i := 2; i+3 < len(b) && i < 400; i += 4 {
			acts = append(acts, anyAct(uint32(b[i])|uint32(b[i+1])<<8|uint32(b[i+2])<<16|uint32(b[i+3])<<24, now))
		}
		play(t, rate, now, acts...)
	})
}

func FuzzTwoItems(f *testing.F) {
	f.Add(5, 10, 3, 9, 12, 1, 12, 2, 20)
	f.Add(fullPrio, lastTick, greatest, least, least, least, greatest, topRate, greatest)
	f.Add(greatest, greatest, 0, 0, -1, 0, lastTick+1, -1, 0)
	f.Fuzz(func(t *testing.T, prio, since, seq, prio2, since2, seq2, now, rate, later int) {
		a := put(api.Item{ID: 1, Prio: prio, Since: since, Seq: seq})
		b := put(api.Item{ID: 2, Prio: prio2, Since: since2, Seq: seq2})
		play(t, rate, now, a, b)
		play(t, rate, now, b, a, a, to(later))
		play(t, rate, now, a, to(later), b, drop(1), a)
		play(t, rate, now, a, b, to(later), dropFirst())
	})
}
