package roster

import (
	"fmt"
	"math"
	"slices"
	"testing"

	"tallyman/api"
)

const (
	least    = math.MinInt
	greatest = math.MaxInt
	full     = math.MaxUint64
	top      = uint64(1) << 63
	// These stand here by the chapter's digits.
	topRoom = 16
	topID   = 999
)

// noIDs are such that no hand has, some of which an int of fewer bits takes for 5.
func noIDs() []int {
	return []int{least, least + 5, -1<<32 + 5, -5, -1, 0, 1000, 1001, 1<<16 + 5, 1 << 31, 1<<32 + 5, greatest - 1, greatest}
}

// lcg tells numbers that are mixed, the same ones each time.
func lcg(seed uint64) func(n int) int {
	return func(n int) int {
		seed = seed*6364136223846793005 + 1442695040888963407
		return int(seed>>33) % n
	}
}

// asked is a roster, be it this package's or a reckoned one.
type asked interface {
	Add(id int, bits uint64) api.Errno
	Set(id int, on bool) api.Errno
	Take(id int) api.Errno
	Give(id int) bool
	Pick(need uint64, not []int) (int, bool)
	Find(id int) (api.Hand, bool)
	Busy(id int) bool
	Free() []api.Hand
	View() []api.Hand
}

// reckoned is a roster by the chapter's words: hands in the order in which they came, and those that are busy beside them.
type reckoned struct {
	room  int
	hands []api.Hand
	busy  []int
}

func reckon(room int) *reckoned { return &reckoned{room: min(max(0, room), topRoom)} }

func (r *reckoned) hand(id int) *api.Hand {
	for i := range r.hands {
		if r.hands[i].ID == id {
			return &r.hands[i]
		}
	}
	return nil
}

func (r *reckoned) free(h *api.Hand) bool { return h.On && !r.Busy(h.ID) }

func (r *reckoned) Add(id int, bits uint64) api.Errno {
	switch {
	case id <= 0 || id > topID:
		return api.ErrRange
	case r.hand(id) != nil:
		return api.ErrTwice
	case len(r.hands) == r.room:
		return api.ErrFull
	}
	r.hands = append(r.hands, api.Hand{ID: id, Bits: bits, On: true})
	return 0
}

func (r *reckoned) Set(id int, on bool) api.Errno {
	h := r.hand(id)
	switch {
	case h == nil:
		return api.ErrName
	case h.On == on:
		return api.ErrState
	}
	h.On = on
	return 0
}

func (r *reckoned) Take(id int) api.Errno {
	h := r.hand(id)
	switch {
	case h == nil:
		return api.ErrName
	case !r.free(h):
		return api.ErrState
	}
	r.busy = append(r.busy, id)
	return 0
}

func (r *reckoned) Give(id int) bool {
	if !r.Busy(id) {
		return false
	}
	r.busy = slices.DeleteFunc(r.busy, func(n int) bool { return n == id })
	return true
}

func (r *reckoned) Pick(need uint64, not []int) (int, bool) {
	best, ok := 0, false
	for i := range r.hands {
		h := &r.hands[i]
		if r.free(h) && h.Bits|need == h.Bits && !slices.Contains(not, h.ID) && (!ok || h.ID < best) {
			best, ok = h.ID, true
		}
	}
	return best, ok
}

func (r *reckoned) Find(id int) (api.Hand, bool) {
	if h := r.hand(id); h != nil {
		return *h, true
	}
	return api.Hand{}, false
}

func (r *reckoned) Busy(id int) bool { return slices.Contains(r.busy, id) }

func (r *reckoned) Free() []api.Hand {
	return slices.DeleteFunc(r.View(), func(h api.Hand) bool { return !r.free(&h) })
}

func (r *reckoned) View() []api.Hand {
	l := slices.Clone(r.hands)
	slices.SortFunc(l, func(a, b api.Hand) int { return a.ID - b.ID })
	return l
}

// act is something that a roster goes through.
type act struct {
	kind kind
	id   int
	bits uint64
}

type kind int

const (
	add kind = iota
	on
	off
	take
	give
)

// do tells what was answered; what Give tells is OK for true, and ErrNone for false.
func (a act) do(x asked) api.Errno {
	switch a.kind {
	case add:
		return x.Add(a.id, a.bits)
	case on, off:
		return x.Set(a.id, a.kind == on)
	case take:
		return x.Take(a.id)
	}
	if x.Give(a.id) {
		return api.OK
	}
	return api.ErrNone
}

func (a act) String() string {
	switch a.kind {
	case add:
		return fmt.Sprintf("Add(%d, %b)", a.id, a.bits)
	case on, off:
		return fmt.Sprintf("Set(%d, %v)", a.id, a.kind == on)
	case take:
		return fmt.Sprintf("Take(%d)", a.id)
	}
	return fmt.Sprintf("Give(%d)", a.id)
}

// brief is a text that is short enough to be looked at.
func brief(room int, acts []act) string {
	text := fmt.Sprintf("New(%d)", room)
	for _, a := range acts {
		text += ", " + a.String()
	}
	if len(text) > 600 {
		text = text[:200] + " .. " + text[len(text)-380:]
	}
	return text
}

// shown is all that a roster tells without a change and without a question, and what it tells of those IDs.
func shown(x asked, ids ...int) string {
	text := fmt.Sprint(x.View(), " free ", x.Free())
	for _, h := range x.View() {
		ids = append(ids, h.ID)
	}
	for _, id := range ids {
		h, ok := x.Find(id)
		text += fmt.Sprint(", ", id, ": ", h, ok, " busy ", x.Busy(id))
	}
	return text
}

// alike: do both show the same, of the hands and of those IDs?
func alike(x, r asked, ids ...int) bool {
	all := r.View()
	if !slices.Equal(x.View(), all) || !slices.Equal(x.Free(), r.Free()) {
		return false
	}
	for _, h := range all {
		ids = append(ids, h.ID)
	}
	for _, id := range ids {
		a, b := x.Find(id)
		c, d := r.Find(id)
		if a != c || b != d || x.Busy(id) != r.Busy(id) {
			return false
		}
	}
	return true
}

// question is what Pick is asked.
type question struct {
	need uint64
	not  []int
}

// littleQuestions are all about two skills and the IDs of a little roster.
func littleQuestions() []question {
	var l []question
	for need := range uint64(8) {
		for _, not := range [][]int{nil, {}, {1}, {2}, {3}, {2, 1}, {1, 2}, {3, 3, 1}, {0, -1, 4, 1000}} {
			l = append(l, question{need, not})
		}
	}
	return l
}

// holdPick asks of a roster what must be so of what is picked, by its answers alone.
func holdPick(t *testing.T, x asked, q question, what func() string) {
	t.Helper()
	id, ok := x.Pick(q.need, q.not)
	if !ok && id != 0 {
		t.Fatalf("%s: Pick(%b, %d): %d, and false", what(), q.need, q.not, id)
	}
	for _, h := range x.View() {
		could := h.On && !x.Busy(h.ID) && q.need&^h.Bits == 0 && !slices.Contains(q.not, h.ID)
		if could && (!ok || h.ID < id) || ok && h.ID == id && !could {
			t.Fatalf("%s: Pick(%b, %d): %d, %v, and could %d: %v", what(), q.need, q.not, id, ok, h.ID, could)
		}
	}
	if _, known := x.Find(id); ok && !known {
		t.Fatalf("%s: Pick(%b, %d): %d, which is nobody", what(), q.need, q.not, id)
	}
}

// holdTaken asks that who is picked can be taken, and is, when given, as it was.
func holdTaken(t *testing.T, x asked, q question, what func() string) {
	t.Helper()
	id, ok := x.Pick(q.need, q.not)
	if !ok {
		return
	}
	before, old := x.View(), x.Free()
	if e := x.Take(id); e != api.OK {
		t.Fatalf("%s: Pick(%b, %d): %d, and Take tells error %d", what(), q.need, q.not, id, e)
	}
	if again, ok := x.Pick(q.need, q.not); ok && again <= id {
		t.Fatalf("%s: Pick(%b, %d): %d, and when it is taken %d", what(), q.need, q.not, id, again)
	}
	if !x.Give(id) || x.Busy(id) || !slices.Equal(x.View(), before) || !slices.Equal(x.Free(), old) {
		t.Fatalf("%s: Pick(%b, %d): %d, and taken and given it isn't as it was: %s", what(), q.need, q.not, id, shown(x))
	}
}

// play does the acts with a roster and a reckoned one, and asks that each act is answered alike, that they show alike behind each, that each question is, and that the laws hold.
// It tells how often each error came.
func play(t *testing.T, room int, acts []act, questions []question) [17]int {
	t.Helper()
	x, r := New(room), reckon(room)
	var seen [17]int
	for i, a := range acts {
		what := func() string { return brief(room, acts[:i+1]) }
		got, want := a.do(x), a.do(r)
		if got != want {
			t.Fatalf("%s: error %d, not %d", what(), got, want)
		}
		if !alike(x, r, a.id, 0) {
			t.Fatalf("%s: %s, not %s", what(), shown(x, a.id, 0), shown(r, a.id, 0))
		}
		for _, q := range questions {
			n, ok := x.Pick(q.need, q.not)
			if m, yes := r.Pick(q.need, q.not); n != m || ok != yes {
				t.Fatalf("%s: Pick(%b, %d): %d, %v, not %d, %v", what(), q.need, q.not, n, ok, m, yes)
			}
			holdPick(t, x, q, what)
			holdTaken(t, x, q, what)
		}
		seen[got]++
	}
	return seen
}

// made is a roster that has gone through acts, each of which was answered OK.
func made(t *testing.T, room int, acts ...act) *Roster {
	t.Helper()
	x := New(room)
	for i, a := range acts {
		if e := a.do(x); e != api.OK {
			t.Fatalf("%s: error %d", brief(room, acts[:i+1]), e)
		}
	}
	return x
}

// wantAct: with an error nothing has changed.
func wantAct(t *testing.T, what string, x *Roster, a act, want api.Errno) {
	t.Helper()
	before := shown(x)
	if e := a.do(x); e != want {
		t.Errorf("%s: %v: error %d, not %d", what, a, e, want)
	} else if after := shown(x); (e == api.OK) == (after == before) {
		t.Errorf("%s: %v: error %d, and %s became %s", what, a, e, before, after)
	}
}

func wantPick(t *testing.T, what string, x asked, need uint64, not []int, want int) {
	t.Helper()
	if id, ok := x.Pick(need, not); id != want || ok != (want != 0) {
		t.Errorf("%s: Pick(%b, %d): %d, %v, not %d", what, need, not[:min(len(not), 20)], id, ok, want)
	}
}

// wantHands: what is told of a roster, as text.
func wantHands(t *testing.T, what string, x asked, all, free string) {
	t.Helper()
	if got := fmt.Sprint(x.View()); got != all {
		t.Errorf("%s: View: %s, not %s", what, got, all)
	}
	if got := fmt.Sprint(x.Free()); got != free {
		t.Errorf("%s: Free: %s, not %s", what, got, free)
	}
}

func TestP2501Rooms(t *testing.T) {
	for _, room := range []int{least, -1<<32 + 3, -16, -1, 0, 1, 2, 8, 15, 16, 17, 32, 1<<16 + 1, 1 << 31, 1<<32 + 1, greatest} {
		fits := min(max(room, 0), topRoom)
		x := New(room)
		if x == nil || len(x.View()) != 0 || len(x.Free()) != 0 {
			t.Fatalf("New(%d) isn't a roster of nobody", room)
		}
		wantPick(t, "nobody", x, 0, nil, 0)
		for id := fits; id > 0; id-- {
			wantAct(t, "there is room", x, act{kind: add, id: id}, api.OK)
		}
		wantAct(t, "no room", x, act{kind: add, id: topID}, api.ErrFull)
		if got := len(x.View()); got != fits {
			t.Errorf("New(%d): %d hands", room, got)
		}
	}
}

// TestP2501AllTakeRoom: also who is not there, and who is busy.
func TestP2501AllTakeRoom(t *testing.T) {
	x := made(t, 2, act{kind: add, id: 1}, act{kind: add, id: 2}, act{kind: off, id: 1}, act{kind: take, id: 2})
	wantAct(t, "no room", x, act{kind: add, id: 3}, api.ErrFull)
}

func TestP2501Add(t *testing.T) {
	x := New(9)
	for _, h := range []act{{id: 7}, {id: 1, bits: 1}, {id: 999, bits: full}, {id: 8, bits: top}, {id: 2, bits: 5}} {
		wantAct(t, "new", x, h, api.OK)
		if got, ok := x.Find(h.id); !ok || got != (api.Hand{ID: h.id, Bits: h.bits, On: true}) || x.Busy(h.id) {
			t.Errorf("%v: %v, %v, busy %v", h, got, ok, x.Busy(h.id))
		}
	}
	all := fmt.Sprintf("[{1 1 true} {2 5 true} {7 0 true} {8 %d true} {999 %d true}]", top, uint64(full))
	wantHands(t, "all", x, all, all)
}

// TestP2501AddErrors: each one, and each ahead of the next one.
func TestP2501AddErrors(t *testing.T) {
	for _, room := range []int{0, 2, 3} {
		x := New(room)
		for id := range min(room, 2) {
			wantAct(t, "new", x, act{kind: add, id: id + 1, bits: 3}, api.OK)
		}
		for _, id := range noIDs() {
			wantAct(t, "an ID beyond", x, act{kind: add, id: id}, api.ErrRange)
		}
	}
	x := made(t, 2, act{kind: add, id: 999}, act{kind: add, id: 1, bits: 4})
	for _, bits := range []uint64{0, 1, 4, full} {
		wantAct(t, "twice, and no room", x, act{kind: add, id: 999, bits: bits}, api.ErrTwice)
		wantAct(t, "twice, and no room", x, act{kind: add, id: 1, bits: bits}, api.ErrTwice)
		wantAct(t, "no room", x, act{kind: add, id: 2, bits: bits}, api.ErrFull)
	}
	x = made(t, 3, act{kind: add, id: 5}, act{kind: add, id: 6}, act{kind: off, id: 5}, act{kind: take, id: 6})
	wantAct(t, "twice, not there", x, act{kind: add, id: 5}, api.ErrTwice)
	wantAct(t, "twice, busy", x, act{kind: add, id: 6}, api.ErrTwice)
	wantAct(t, "room is left", x, act{kind: add, id: 7}, api.OK)
}

func TestP2501Set(t *testing.T) {
	x := made(t, 4, act{kind: add, id: 3, bits: 6}, act{kind: add, id: 5, bits: 1})
	wantAct(t, "there", x, act{kind: on, id: 3}, api.ErrState)
	wantAct(t, "there", x, act{kind: off, id: 3}, api.OK)
	wantHands(t, "3 is not there", x, "[{3 6 false} {5 1 true}]", "[{5 1 true}]")
	wantAct(t, "not there", x, act{kind: off, id: 3}, api.ErrState)
	wantAct(t, "not there", x, act{kind: on, id: 3}, api.OK)
	wantHands(t, "3 is there", x, "[{3 6 true} {5 1 true}]", "[{3 6 true} {5 1 true}]")
	for _, id := range append(noIDs(), 1, 2, 4, 6, 999) {
		wantAct(t, "nobody", x, act{kind: on, id: id}, api.ErrName)
		wantAct(t, "nobody", x, act{kind: off, id: id}, api.ErrName)
		wantAct(t, "nobody", New(4), act{kind: on, id: id}, api.ErrName)
		wantAct(t, "nobody", New(4), act{kind: off, id: id}, api.ErrName)
	}
}

// TestP2501SetLeavesBusy: who is busy stays so when it goes and comes, and who is not stays so too.
func TestP2501SetLeavesBusy(t *testing.T) {
	x := made(t, 4, act{kind: add, id: 3}, act{kind: add, id: 5}, act{kind: take, id: 3})
	want := func(what string) {
		t.Helper()
		if !x.Busy(3) || x.Busy(5) {
			t.Errorf("%s: busy: %v, %v", what, x.Busy(3), x.Busy(5))
		}
	}
	for range 2 {
		for _, k := range []kind{off, on} {
			wantAct(t, "busy", x, act{kind: k, id: 3}, api.OK)
			want(act{kind: k, id: 3}.String())
			wantAct(t, "not busy", x, act{kind: k, id: 5}, api.OK)
			want(act{kind: k, id: 5}.String())
		}
	}
	wantHands(t, "behind it", x, "[{3 0 true} {5 0 true}]", "[{5 0 true}]")
}

// TestP2502States: which act is taken by a hand that is there, or not, and busy, or not.
func TestP2502States(t *testing.T) {
	for _, c := range []struct {
		what       string
		acts       []act
		take, give api.Errno
	}{
		{"free", nil, api.OK, api.ErrNone},
		{"not there", []act{{kind: off, id: 5}}, api.ErrState, api.ErrNone},
		{"busy", []act{{kind: take, id: 5}}, api.ErrState, api.OK},
		{"not there, and busy", []act{{kind: take, id: 5}, {kind: off, id: 5}}, api.ErrState, api.OK},
		{"there again, and busy", []act{{kind: take, id: 5}, {kind: off, id: 5}, {kind: on, id: 5}}, api.ErrState, api.OK},
		{"given", []act{{kind: take, id: 5}, {kind: give, id: 5}}, api.OK, api.ErrNone},
		{"given when not there", []act{{kind: take, id: 5}, {kind: off, id: 5}, {kind: give, id: 5}}, api.ErrState, api.ErrNone},
	} {
		acts := append([]act{{kind: add, id: 4}, {kind: add, id: 5, bits: 9}, {kind: add, id: 6}}, c.acts...)
		wantAct(t, c.what, made(t, 4, acts...), act{kind: take, id: 5}, c.take)
		wantAct(t, c.what, made(t, 4, acts...), act{kind: give, id: 5}, c.give)
	}
}

func TestP2502TakeAndGive(t *testing.T) {
	x := made(t, 4, act{kind: add, id: 4, bits: 1}, act{kind: add, id: 2, bits: 2}, act{kind: add, id: 9, bits: 3})
	all := "[{2 2 true} {4 1 true} {9 3 true}]"
	wantAct(t, "free", x, act{kind: take, id: 4}, api.OK)
	wantHands(t, "4 is busy", x, all, "[{2 2 true} {9 3 true}]")
	wantAct(t, "free", x, act{kind: take, id: 9}, api.OK)
	wantHands(t, "9 too", x, all, "[{2 2 true}]")
	wantAct(t, "busy", x, act{kind: give, id: 4}, api.OK)
	wantHands(t, "4 is given", x, all, "[{2 2 true} {4 1 true}]")
	wantAct(t, "given", x, act{kind: take, id: 4}, api.OK)
	wantAct(t, "free", x, act{kind: take, id: 2}, api.OK)
	wantHands(t, "all are busy", x, all, "[]")
	for _, id := range []int{2, 4, 9} {
		if !x.Busy(id) {
			t.Errorf("%d isn't busy", id)
		}
	}
}

func TestP2502Nobody(t *testing.T) {
	x := made(t, 4, act{kind: add, id: 3}, act{kind: add, id: 5}, act{kind: take, id: 5})
	for _, id := range append(noIDs(), 1, 2, 4, 6, 999) {
		wantAct(t, "nobody", x, act{kind: take, id: id}, api.ErrName)
		wantAct(t, "nobody", x, act{kind: give, id: id}, api.ErrNone)
		wantAct(t, "nobody", New(4), act{kind: take, id: id}, api.ErrName)
		wantAct(t, "nobody", New(4), act{kind: give, id: id}, api.ErrNone)
	}
}

func TestP2503Pick(t *testing.T) {
	x := made(t, 9,
		act{kind: add, id: 999, bits: full}, act{kind: add, id: 8, bits: top | 1}, act{kind: add, id: 2, bits: 2},
		act{kind: add, id: 3}, act{kind: add, id: 5, bits: 3}, act{kind: add, id: 1, bits: 3}, act{kind: add, id: 4, bits: 1},
		act{kind: off, id: 1}, act{kind: take, id: 4})
	for _, c := range []struct {
		need uint64
		not  []int
		want int
	}{
		{0, nil, 2},
		{0, []int{}, 2},
		{0, []int{2}, 3},
		{0, []int{3}, 2},
		{0, []int{3, 2}, 5},
		{0, []int{1, 4, 6, 7}, 2},
		{0, []int{5, 3, 2, 8, 2, 2}, 999},
		{0, []int{999, 5, 3, 2, 8}, 0},
		{1, nil, 5},
		{1, []int{5}, 8},
		{1, []int{5, 8}, 999},
		{1, []int{5, 999}, 8},
		{2, nil, 2},
		{2, []int{2}, 5},
		{3, nil, 5},
		{3, []int{2, 5}, 999},
		{4, nil, 999},
		{4, []int{999}, 0},
		{top, nil, 8},
		{top | 1, nil, 8},
		{top | 2, nil, 999},
		{top, []int{8}, 999},
		{1 << 32, nil, 999},
		{full, nil, 999},
		{full, []int{1, 2, 3, 4, 5, 8}, 999},
		{full, []int{1, 2, 3, 4, 5, 8, 999}, 0},
		{0, noIDs(), 2},
		{0, []int{1<<16 + 2, 1<<32 + 2, -2, least + 2}, 2},
	} {
		wantPick(t, "mixed", x, c.need, c.not, c.want)
	}
	wantAct(t, "1 comes", x, act{kind: on, id: 1}, api.OK)
	wantPick(t, "1 comes", x, 1, nil, 1)
	wantAct(t, "1 is taken", x, act{kind: take, id: 1}, api.OK)
	wantPick(t, "1 is taken", x, 1, nil, 5)
	wantAct(t, "4 is given", x, act{kind: give, id: 4}, api.OK)
	wantPick(t, "4 is given", x, 1, nil, 4)
}

// TestP2503AllSkills: each skill is asked for, and one that lacks is enough.
func TestP2503AllSkills(t *testing.T) {
	for n := range 64 {
		one := uint64(1) << n
		x := made(t, 3, act{kind: add, id: 1, bits: full &^ one}, act{kind: add, id: 2, bits: one})
		wantPick(t, "one", x, one, nil, 2)
		wantPick(t, "all but one", x, full&^one, nil, 1)
		wantPick(t, "all", x, full, nil, 0)
		wantPick(t, "none", x, 0, nil, 1)
	}
}

func TestP2503FindAndBusy(t *testing.T) {
	x := made(t, 9, act{kind: add, id: 5, bits: 1}, act{kind: add, id: 999, bits: full}, act{kind: add, id: 1}, act{kind: take, id: 1}, act{kind: off, id: 999})
	for _, c := range []struct {
		hand api.Hand
		busy bool
	}{{api.Hand{ID: 1, On: true}, true}, {api.Hand{ID: 5, Bits: 1, On: true}, false}, {api.Hand{ID: 999, Bits: full}, false}} {
		if h, ok := x.Find(c.hand.ID); h != c.hand || !ok || x.Busy(c.hand.ID) != c.busy {
			t.Errorf("Find(%d): %v, %v, busy %v", c.hand.ID, h, ok, x.Busy(c.hand.ID))
		}
	}
	for _, id := range append(noIDs(), 2, 4, 6, 998) {
		if h, ok := x.Find(id); h != (api.Hand{}) || ok || x.Busy(id) {
			t.Errorf("Find(%d): %v, %v, busy %v", id, h, ok, x.Busy(id))
		}
	}
}

// TestP2503Rises: in whatever order hands came, they are told by rising IDs.
func TestP2503Rises(t *testing.T) {
	below := lcg(2503)
	for range 200 {
		x := New(16)
		for len(x.View()) < 16 {
			x.Add(1+below(topID), uint64(below(9)))
		}
		for _, h := range x.View() {
			if below(3) == 0 {
				x.Take(h.ID)
			}
		}
		if l := x.View(); !slices.IsSortedFunc(l, func(a, b api.Hand) int { return a.ID - b.ID }) {
			t.Fatalf("View: %v", l)
		}
		if l := x.Free(); !slices.IsSortedFunc(l, func(a, b api.Hand) int { return a.ID - b.ID }) {
			t.Fatalf("Free: %v", l)
		}
	}
}

func TestNilRoster(t *testing.T) {
	var x *Roster
	for _, id := range append(noIDs(), 1, 5, 999) {
		for k, want := range map[kind]api.Errno{add: api.ErrFull, on: api.ErrName, off: api.ErrName, take: api.ErrName, give: api.ErrNone} {
			wantAct(t, "nil", x, act{kind: k, id: id}, want)
		}
		if h, ok := x.Find(id); h != (api.Hand{}) || ok || x.Busy(id) {
			t.Errorf("Find(%d): %v, %v, busy %v", id, h, ok, x.Busy(id))
		}
	}
	wantPick(t, "nil", x, 0, nil, 0)
	wantPick(t, "nil", x, full, []int{1}, 0)
	wantHands(t, "nil", x, "[]", "[]")
}

// eachRow tells all rows of so many acts behind those.
func eachRow(acts, of []act, many int, tell func(acts []act)) {
	if many == 0 {
		tell(acts)
		return
	}
	for _, a := range of {
		eachRow(append(slices.Clip(acts), a), of, many-1, tell)
	}
}

func TestP2504AllLittleRows(t *testing.T) {
	of := []act{{id: 1, bits: 3}, {id: 2, bits: 1}, {id: 3, bits: 6}}
	for id := 1; id <= 2; id++ {
		of = append(of, act{kind: on, id: id}, act{kind: off, id: id}, act{kind: take, id: id}, act{kind: give, id: id})
	}
	questions := []question{{0, nil}, {1, nil}, {2, []int{1}}}
	for room := range 3 {
		eachRow(nil, of, 4, func(acts []act) { play(t, room, acts, questions) })
	}
}

// TestP2504AllStates: two hands in each of their four states, under all little questions.
func TestP2504AllStates(t *testing.T) {
	states := func(id int) [][]act {
		return [][]act{nil, {{kind: take, id: id}}, {{kind: off, id: id}}, {{kind: take, id: id}, {kind: off, id: id}}}
	}
	for one := range uint64(8) {
		for two := range uint64(8) {
			for _, a := range states(1) {
				for _, b := range states(3) {
					acts := slices.Concat([]act{{id: 3, bits: two}, {id: 1, bits: one}}, a, b)
					play(t, 3, acts, littleQuestions())
				}
			}
		}
	}
}

// mixed is a row of acts about so many IDs.
func mixed(below func(n int) int, ids, many int) []act {
	var acts []act
	for range many {
		id := 1 + below(ids)
		if below(40) == 0 {
			id = noIDs()[below(len(noIDs()))]
		}
		acts = append(acts, act{kind: kind(below(5)), id: id, bits: uint64(below(64))})
	}
	return acts
}

func TestP2504MixedRows(t *testing.T) {
	below := lcg(25)
	var seen [17]int
	for range 1500 {
		var questions []question
		for range 6 {
			q := question{need: uint64(below(64)) & uint64(below(64))}
			for range below(5) {
				q.not = append(q.not, 1+below(20))
			}
			questions = append(questions, q)
		}
		for e, n := range play(t, below(18), mixed(below, 1+below(25), 80), questions) {
			seen[e] += n
		}
	}
	for _, e := range []api.Errno{api.OK, api.ErrRange, api.ErrTwice, api.ErrName, api.ErrFull, api.ErrState, api.ErrNone} {
		if seen[e] < 100 {
			t.Errorf("error %d came %d times", e, seen[e])
		}
	}
}

// TestLongLists: lists of a hundred thousand end soon.
func TestLongLists(t *testing.T) {
	x := New(16)
	for id := 1; id <= 16; id++ {
		x.Add(id, 1)
	}
	not := make([]int, 100_000)
	for i := range not {
		not[i] = 1 + i%15
	}
	for range 100 {
		wantPick(t, "long", x, 1, not, 16)
	}
	not[99_999] = 16
	wantPick(t, "all are in it", x, 1, not, 0)
}

// TestArgumentsStay: neither what is handed in nor its spare room is changed.
func TestArgumentsStay(t *testing.T) {
	x := made(t, 4, act{kind: add, id: 1}, act{kind: add, id: 2}, act{kind: add, id: 3})
	not := []int{2, 1, 2, 77, 78}
	wantPick(t, "mixed", x, 0, not[:3], 3)
	if want := []int{2, 1, 2, 77, 78}; !slices.Equal(not, want) {
		t.Errorf("%d became %d", want, not)
	}
}

// TestAnswersStay: whoever changes what was told changes not what is kept, and what was told stays when the roster goes on.
func TestAnswersStay(t *testing.T) {
	x := made(t, 16, act{kind: add, id: 4, bits: 1}, act{kind: add, id: 6, bits: 2}, act{kind: add, id: 8, bits: 3}, act{kind: take, id: 8})
	all, free := x.View(), x.Free()
	text := fmt.Sprint(all, free)
	first := shown(x)
	for _, l := range [][]api.Hand{x.View(), x.Free()} {
		for i := range l {
			l[i] = api.Hand{ID: 77}
		}
		_ = append(l, api.Hand{ID: 78})
	}
	if again := shown(x); again != first {
		t.Errorf("%s, and then %s", first, again)
	}
	x.Set(4, false)
	x.Take(6)
	x.Give(8)
	x.Add(1, 9)
	x.Add(5, 9)
	if again := fmt.Sprint(all, free); again != text {
		t.Errorf("%s became %s", text, again)
	}
}

// TestRostersStandApart: what one roster goes through shows in no other one.
func TestRostersStandApart(t *testing.T) {
	acts := []act{{id: 1}, {id: 2}, {id: 3}, {kind: take, id: 3}}
	x, y := made(t, 9, acts...), made(t, 9, acts...)
	before := shown(y)
	x.Take(1)
	x.Set(2, false)
	x.Give(3)
	x.Add(4, 1)
	if after := shown(y); after != before {
		t.Errorf("%s became %s", before, after)
	}
}

func TestExamplesOfTheChapter(t *testing.T) {
	x := New(16)
	wantAct(t, "example 1", x, act{kind: add, id: 2, bits: 1}, api.OK)
	wantAct(t, "example 1", x, act{kind: add, id: 1, bits: 3}, api.OK)
	wantPick(t, "example 1", x, 1, nil, 1)
	wantPick(t, "example 1", x, 1, []int{1}, 2)
}

// rowOfBytes makes a room, acts and questions of any bytes.
func rowOfBytes(p []byte) (int, []act, []question) {
	next := func() int {
		if len(p) == 0 {
			return 0
		}
		n := int(p[0])
		p = p[1:]
		return n
	}
	room := next() % 20
	var questions []question
	for range next() % 4 {
		q := question{need: uint64(next()) * 0x0101010101010101}
		for range next() % 5 {
			q.not = append(q.not, next()%24)
		}
		questions = append(questions, q)
	}
	var acts []act
	for len(p) > 0 && len(acts) < 100 {
		a := act{kind: kind(next() % 5), id: next() % 24}
		if a.kind == add {
			a.bits = uint64(next()) * 0x0101010101010101
		}
		acts = append(acts, a)
	}
	return room, acts, questions
}

func FuzzRows(f *testing.F) {
	f.Add([]byte{9, 1, 1, 1, 2, 0, 2, 1, 0, 1, 3, 3, 2, 2, 2, 4, 2})
	f.Add([]byte{2, 2, 0, 0, 7, 2, 1, 2, 0, 1, 7, 0, 2, 3, 2, 1, 3, 1, 1, 1})
	f.Fuzz(func(t *testing.T, p []byte) {
		room, acts, questions := rowOfBytes(p)
		play(t, room, acts, questions)
	})
}
