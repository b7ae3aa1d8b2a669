package dag

import (
	"fmt"
	"math"
	"slices"
	"strings"
	"testing"

	"tallyman/api"
	"tallyman/batch"
	"tallyman/task"
)

const (
	least    = math.MinInt
	greatest = math.MaxInt
	// These stand here by the chapter's digits.
	topRoom = 64
	pending = 1
	ready   = 2
	over    = 4
	failed  = 5
	dropped = 6
)

// noIDs are such that no task has, some of which an int of fewer bits takes for 5.
func noIDs() []int {
	return []int{least, least + 5, -1<<32 + 5, -5, -1, 0, 1000, 1<<16 + 5, 1<<32 + 5, greatest}
}

func spec(id int, after ...int) api.Spec { return api.Spec{ID: id, After: after} }

func specs(l ...api.Spec) []api.Spec { return l }

// row are specs from one ID to another one, each after the one ahead of it.
func row(from, to int) []api.Spec {
	l := specs(spec(from))
	for id := from + 1; id <= to; id++ {
		l = append(l, spec(id, id-1))
	}
	return l
}

func backward(l []api.Spec) []api.Spec {
	l = slices.Clone(l)
	slices.Reverse(l)
	return l
}

// span are the numbers from one to another one.
func span(from, to int) []int {
	var l []int
	for n := from; n <= to; n++ {
		l = append(l, n)
	}
	return l
}

// lcg tells numbers that are mixed, the same ones each time.
func lcg(seed uint64) func(n int) int {
	return func(n int) int {
		seed = seed*6364136223846793005 + 1442695040888963407
		return int(seed>>33) % n
	}
}

// asked is a store, be it this package's or a reckoned one.
type asked interface {
	Admit(l []api.Spec) ([]int, api.Errno)
	Done(id int) ([]int, api.Errno)
	Fail(id int) ([]int, api.Errno)
	Cancel(id int) ([]int, api.Errno)
	Status(id int) int
	Waits(id int) int
	View() []api.Task
	Len() int
}

// reckoned is a store by the chapter's words: tasks in the order in which they came, looked through each time.
type reckoned struct {
	room  int
	tasks []api.Task
}

func reckon(room int) *reckoned { return &reckoned{room: min(max(0, room), topRoom)} }

func (r *reckoned) task(id int) *api.Task {
	for i := range r.tasks {
		if r.tasks[i].Spec.ID == id {
			return &r.tasks[i]
		}
	}
	return nil
}

// ids are all IDs, rising.
func (r *reckoned) ids() []int {
	var l []int
	for _, x := range r.tasks {
		l = append(l, x.Spec.ID)
	}
	slices.Sort(l)
	return l
}

func (r *reckoned) Admit(l []api.Spec) ([]int, api.Errno) {
	if e := batch.Check(r.room, r.tasks, l); e != 0 {
		return nil, e
	}
	for _, x := range l {
		x.After = slices.Clone(x.After)
		r.tasks = append(r.tasks, api.Task{Spec: x, Status: pending})
	}
	var free []int
	for _, x := range l {
		if r.Waits(x.ID) == 0 {
			r.task(x.ID).Status = ready
			free = append(free, x.ID)
		}
	}
	return free, 0
}

func (r *reckoned) Done(id int) ([]int, api.Errno) {
	x := r.task(id)
	switch {
	case x == nil:
		return nil, api.ErrName
	case x.Status != ready:
		return nil, api.ErrState
	}
	x.Status = over
	var free []int
	for _, n := range r.ids() {
		if y := r.task(n); y.Status == pending && r.Waits(n) == 0 {
			y.Status = ready
			free = append(free, n)
		}
	}
	return free, 0
}

// behind: does the one task come behind the other one?
func (r *reckoned) behind(id, other int) bool {
	for _, n := range r.task(id).Spec.After {
		if n == other || r.behind(n, other) {
			return true
		}
	}
	return false
}

func (r *reckoned) drop(id int) []int {
	var ids []int
	for _, n := range r.ids() {
		if x := r.task(n); (x.Status == pending || x.Status == ready) && (n == id || r.behind(n, id)) {
			x.Status = dropped
			ids = append(ids, n)
		}
	}
	return ids
}

func (r *reckoned) Fail(id int) ([]int, api.Errno) {
	x := r.task(id)
	switch {
	case x == nil:
		return nil, api.ErrName
	case x.Status != ready:
		return nil, api.ErrState
	}
	x.Status = failed
	return r.drop(id), 0
}

func (r *reckoned) Cancel(id int) ([]int, api.Errno) {
	x := r.task(id)
	switch {
	case x == nil:
		return nil, api.ErrName
	case x.Status != pending && x.Status != ready:
		return nil, api.ErrState
	}
	return r.drop(id), 0
}

func (r *reckoned) Status(id int) int {
	if x := r.task(id); x != nil {
		return x.Status
	}
	return 0
}

func (r *reckoned) Waits(id int) int {
	x, waits := r.task(id), 0
	if x == nil {
		return 0
	}
	for _, n := range x.Spec.After {
		if r.Status(n) != over {
			waits++
		}
	}
	return waits
}

func (r *reckoned) View() []api.Task {
	var l []api.Task
	for _, n := range r.ids() {
		l = append(l, *r.task(n))
	}
	return l
}

func (r *reckoned) Len() int { return len(r.tasks) }

// act is something that a store goes through.
type act struct {
	kind  kind
	id    int
	batch []api.Spec
}

type kind int

const (
	done kind = iota
	fail
	cancel
	admit
)

func admitting(l ...api.Spec) act { return act{kind: admit, batch: l} }

// do tells what was answered.
func (a act) do(x asked) ([]int, api.Errno) {
	switch a.kind {
	case done:
		return x.Done(a.id)
	case fail:
		return x.Fail(a.id)
	case cancel:
		return x.Cancel(a.id)
	}
	return x.Admit(a.batch)
}

func (a act) String() string {
	if a.kind != admit {
		return fmt.Sprintf("%s(%d)", [...]string{"Done", "Fail", "Cancel"}[a.kind], a.id)
	}
	var b strings.Builder
	b.WriteString("Admit(")
	for i, x := range a.batch {
		if i > 0 {
			b.WriteString(", ")
		}
		fmt.Fprintf(&b, "%d after %d", x.ID, x.After)
	}
	return b.String() + ")"
}

// brief is a text that is short enough to be looked at.
func brief(room int, acts []act) string {
	text := fmt.Sprintf("New(%d)", room)
	for _, a := range acts {
		text += ", " + a.String()
	}
	if len(text) > 600 {
		text = text[:200] + " .. " + text[len(text)-380:]
	}
	return text
}

// shown is all that a store tells without a change, of what is in it, and of those IDs.
func shown(x asked, ids ...int) string {
	var b strings.Builder
	l := x.View()
	fmt.Fprint(&b, x.Len(), l)
	for _, y := range l {
		ids = append(ids, y.Spec.ID)
	}
	for _, id := range ids {
		fmt.Fprintf(&b, ", %d: %d waits %d", id, x.Status(id), x.Waits(id))
	}
	return b.String()
}

// alike: do both show the same?
func alike(x, r asked, ids ...int) bool {
	a, b := x.View(), r.View()
	if x.Len() != r.Len() || len(a) != len(b) {
		return false
	}
	for i := range a {
		if !sameTask(a[i], b[i]) {
			return false
		}
		ids = append(ids, a[i].Spec.ID)
	}
	for _, id := range ids {
		if x.Status(id) != r.Status(id) || x.Waits(id) != r.Waits(id) {
			return false
		}
	}
	return true
}

// sameTask: has a all parts of b, and nothing beside Spec and Status?
func sameTask(a, b api.Task) bool {
	return task.Same(a.Spec, b.Spec) && a.Status == b.Status && a.Seq == 0 && a.Since == 0 && a.Lost == 0 && len(a.Burnt) == 0
}

// holdLaws asks of a store what must be so, by what it answers alone.
func holdLaws(t *testing.T, x asked, what func() string) {
	t.Helper()
	status := map[int]int{}
	count := [8]int{}
	for _, y := range x.View() {
		status[y.Spec.ID] = y.Status
		count[y.Status]++
	}
	for _, y := range x.View() {
		for _, id := range y.Spec.After {
			switch ahead := status[id]; {
			case (y.Status == ready || y.Status == over) && ahead != over:
				t.Fatalf("%s: %d is %d, and what it comes after, %d, is %d", what(), y.Spec.ID, y.Status, id, ahead)
			case (ahead == failed || ahead == dropped) && y.Status != dropped:
				t.Fatalf("%s: %d is %d, and what comes after it, %d, is %d", what(), id, ahead, y.Spec.ID, y.Status)
			}
		}
	}
	if count[ready] == 0 && count[pending] > 0 {
		t.Fatalf("%s: nothing is Ready, and %d are Pending", what(), count[pending])
	}
}

// holdStays asks that what has ended stays so, and that nothing goes.
func holdStays(t *testing.T, before []api.Task, x asked, what func() string) {
	t.Helper()
	for _, y := range before {
		now := x.Status(y.Spec.ID)
		if now == 0 || (y.Status == over || y.Status == failed || y.Status == dropped) && now != y.Status {
			t.Fatalf("%s: %d was %d, and is %d", what(), y.Spec.ID, y.Status, now)
		}
	}
}

// play does the acts with a store and a reckoned one, and asks that each act is answered alike, that they show alike behind each, and that the laws hold.
// It tells how often each error came.
func play(t *testing.T, room int, acts []act) [17]int {
	t.Helper()
	x, r := New(room), reckon(room)
	var seen [17]int
	for i, a := range acts {
		what := func() string { return brief(room, acts[:i+1]) }
		before := x.View()
		got, e := a.do(x)
		want, f := a.do(r)
		if e != f || !slices.Equal(got, want) {
			t.Fatalf("%s: %d, error %d, not %d, error %d", what(), got, e, want, f)
		}
		if !alike(x, r, a.id, 0) {
			t.Fatalf("%s: %s, not %s", what(), shown(x, a.id, 0), shown(r, a.id, 0))
		}
		holdLaws(t, x, what)
		holdStays(t, before, x, what)
		seen[e]++
	}
	return seen
}

// made is a store that has gone through acts, each of which was answered OK.
func made(t *testing.T, room int, acts ...act) *Dag {
	t.Helper()
	x := New(room)
	for i, a := range acts {
		if _, e := a.do(x); e != api.OK {
			t.Fatalf("%s: error %d", brief(room, acts[:i+1]), e)
		}
	}
	return x
}

// wantAct: with an error nothing has changed.
func wantAct(t *testing.T, what string, x *Dag, a act, want api.Errno, ids ...int) {
	t.Helper()
	before := shown(x)
	got, e := a.do(x)
	if e != want || !slices.Equal(got, ids) {
		t.Errorf("%s: %v: %d, error %d, not %d, error %d", what, a, got, e, ids, want)
	}
	if after := shown(x); e != api.OK && after != before {
		t.Errorf("%s: %v: error %d, and %s became %s", what, a, e, before, after)
	}
}

// wantStatuses asks the statuses of the tasks 1, 2 and so on.
func wantStatuses(t *testing.T, what string, x *Dag, want ...int) {
	t.Helper()
	for i, status := range want {
		if got := x.Status(i + 1); got != status {
			t.Errorf("%s: the status of %d: %d, not %d", what, i+1, got, status)
		}
	}
}

func TestP2401Rooms(t *testing.T) {
	for _, room := range []int{least, -1 << 32, -64, -1, 0, 1, 2, 31, 32, 63, 64, 65, 128, 1<<16 + 1, 1 << 31, 1<<32 + 1, greatest} {
		fits := min(max(room, 0), topRoom)
		x := New(room)
		if x == nil || x.Len() != 0 || len(x.View()) != 0 {
			t.Fatalf("New(%d) isn't a store of nothing", room)
		}
		wantAct(t, "one beyond", x, admitting(row(1, fits+1)...), api.ErrFull)
		if fits > 0 {
			wantAct(t, "all at once", x, admitting(row(1, fits)...), api.OK, 1)
		}
		wantAct(t, "one more", x, admitting(spec(999)), api.ErrFull)
		x = New(room)
		for id := range fits {
			wantAct(t, "one by one", x, admitting(spec(id+1)), api.OK, id+1)
		}
		wantAct(t, "one more", x, admitting(spec(999)), api.ErrFull)
		if x.Len() != fits {
			t.Errorf("New(%d): %d tasks", room, x.Len())
		}
	}
}

// TestP2401EndedOnesTakeRoom: all tasks count, also those that have ended.
func TestP2401EndedOnesTakeRoom(t *testing.T) {
	x := made(t, 3, admitting(row(1, 3)...), act{kind: done, id: 1}, act{kind: fail, id: 2})
	wantStatuses(t, "all have ended", x, over, failed, dropped)
	wantAct(t, "no room", x, admitting(spec(4)), api.ErrFull)
}

func TestP2401Admit(t *testing.T) {
	x := New(9)
	wantAct(t, "mixed", x, admitting(spec(7), spec(3, 2, 7), spec(5), spec(2, 7), spec(4)), api.OK, 7, 5, 4)
	for id, want := range map[int]int{2: pending, 3: pending, 4: ready, 5: ready, 7: ready, 1: 0, 6: 0} {
		if got := x.Status(id); got != want {
			t.Errorf("the status of %d: %d, not %d", id, got, want)
		}
	}
	wantAct(t, "after one that is Ready", x, admitting(spec(1, 4), spec(6)), api.OK, 6)
	wantAct(t, "7 is done", x, act{kind: done, id: 7}, api.OK, 2)
	wantAct(t, "after one that is Over", x, admitting(spec(9, 7)), api.OK, 9)
	wantAct(t, "after one that is Over and one that is not", x, admitting(spec(8, 2, 7)), api.OK)
	wantStatuses(t, "all", x, pending, ready, pending, ready, ready, ready, over, pending, ready)
}

// TestP2401Errors: each one, and each ahead of the next one.
func TestP2401Errors(t *testing.T) {
	x := made(t, 5, admitting(spec(1), spec(2), spec(3, 2)), act{kind: cancel, id: 2})
	wantAct(t, "nil", x, admitting(), api.ErrArg)
	wantAct(t, "of nothing", x, act{kind: admit, batch: []api.Spec{}}, api.ErrArg)
	for _, id := range noIDs() {
		wantAct(t, "an ID beyond", x, admitting(spec(7), spec(id)), api.ErrRange)
		wantAct(t, "after an ID beyond", x, admitting(spec(7), spec(8, id)), api.ErrArg)
	}
	wantAct(t, "a priority beyond", x, admitting(api.Spec{ID: 7, Prio: -1}), api.ErrRange)
	wantAct(t, "after itself", x, admitting(spec(7, 7)), api.ErrArg)
	wantAct(t, "falling", x, admitting(spec(7), spec(8, 7, 1)), api.ErrArg)
	wantAct(t, "no room, and twice", x, admitting(spec(1), spec(8), spec(9)), api.ErrFull)
	for _, id := range []int{1, 2, 3} {
		wantAct(t, "known, and after nobody", x, admitting(spec(id), spec(9, 8)), api.ErrTwice)
	}
	wantAct(t, "twice, and after nobody", x, admitting(spec(9, 8), spec(9)), api.ErrTwice)
	wantAct(t, "after nobody, and after one that is gone", x, admitting(spec(8, 2), spec(9, 7)), api.ErrName)
	wantAct(t, "after one that is gone, and in a ring", x, admitting(spec(8, 9), spec(9, 3, 8)), api.ErrState)
	wantAct(t, "after one that was dropped behind it", x, admitting(spec(8, 3)), api.ErrState)
	wantAct(t, "in a ring", x, admitting(spec(8, 9), spec(9, 8)), api.ErrRing)
	wantAct(t, "none of these", x, admitting(spec(8, 9), spec(9, 1)), api.OK)
}

// TestP2401SpecsStay: a spec comes out as it went in, with all its parts.
func TestP2401SpecsStay(t *testing.T) {
	l := specs(
		api.Spec{ID: 999, Prio: 1<<20 - 1, Skill: 1 << 63, Gear: math.MaxUint64, From: api.Point{X: -1000, Y: 1000}, To: api.Point{X: 999, Y: -999}, After: []int{1, 2, 3, 4, 5, 6, 7, 8}},
		api.Spec{ID: 1, Prio: 7, Skill: 1, Gear: 2, From: api.Point{X: 3, Y: 4}, To: api.Point{X: 5, Y: 6}},
		api.Spec{ID: 2, Prio: 8, After: []int{}},
		spec(3), spec(4), spec(5), spec(6), spec(7), spec(8),
	)
	x := made(t, 64, act{kind: admit, batch: l})
	slices.SortFunc(l, func(a, b api.Spec) int { return a.ID - b.ID })
	for i, y := range x.View() {
		if got, want := fmt.Sprint(y.Spec), fmt.Sprint(l[i]); got != want {
			t.Errorf("%s, not %s", got, want)
		}
	}
	if got := x.Waits(999); got != 8 {
		t.Errorf("999 waits for %d", got)
	}
}

func TestP2402NoSuchTask(t *testing.T) {
	x := made(t, 9, admitting(spec(5), spec(6, 5)))
	for _, id := range append(noIDs(), 1, 4, 7, 999) {
		for k := done; k <= cancel; k++ {
			wantAct(t, "no such task", x, act{kind: k, id: id}, api.ErrName)
			wantAct(t, "a store of nothing", New(9), act{kind: k, id: id}, api.ErrName)
		}
	}
}

// TestP2402States: which act is taken by a task of which status.
func TestP2402States(t *testing.T) {
	acts := []act{admitting(spec(1), spec(2), spec(3), spec(4), spec(5, 4)), {kind: done, id: 1}, {kind: fail, id: 2}, {kind: cancel, id: 3}}
	for _, c := range []struct {
		id, status         int
		done, fail, cancel api.Errno
	}{
		{1, over, api.ErrState, api.ErrState, api.ErrState},
		{2, failed, api.ErrState, api.ErrState, api.ErrState},
		{3, dropped, api.ErrState, api.ErrState, api.ErrState},
		{4, ready, api.OK, api.OK, api.OK},
		{5, pending, api.ErrState, api.ErrState, api.OK},
	} {
		for k, want := range map[kind]api.Errno{done: c.done, fail: c.fail, cancel: c.cancel} {
			x := made(t, 9, acts...)
			if got := x.Status(c.id); got != c.status {
				t.Errorf("the status of %d: %d, not %d", c.id, got, c.status)
			}
			before := shown(x)
			ids, e := act{kind: k, id: c.id}.do(x)
			if e != want || e != api.OK && (len(ids) > 0 || shown(x) != before) {
				t.Errorf("%v: %d, error %d, not error %d, and %s behind it", act{kind: k, id: c.id}, ids, e, want, shown(x))
			}
		}
	}
}

func TestP2402Done(t *testing.T) {
	x := made(t, 9, admitting(spec(9, 1), spec(4, 1), spec(6, 1, 2), spec(1), spec(2), spec(7, 9), spec(3, 2), spec(5, 1, 4)))
	wantAct(t, "the first one", x, act{kind: done, id: 1}, api.OK, 4, 9)
	wantAct(t, "the last one that another one comes after", x, act{kind: done, id: 2}, api.OK, 3, 6)
	wantAct(t, "nobody comes after it", x, act{kind: done, id: 3}, api.OK)
	wantAct(t, "one of two", x, act{kind: done, id: 4}, api.OK, 5)
	wantStatuses(t, "all", x, over, over, over, over, ready, ready, pending, 0, ready)
}

// TestP2402DoneLeavesWhatIsDropped: what was dropped comes not back when all else that it comes after is over.
func TestP2402DoneLeavesWhatIsDropped(t *testing.T) {
	x := made(t, 9, admitting(spec(1), spec(2), spec(3, 1, 2), spec(4, 1)))
	wantAct(t, "dropped by itself", x, act{kind: cancel, id: 3}, api.OK, 3)
	wantAct(t, "done", x, act{kind: done, id: 1}, api.OK, 4)
	wantAct(t, "done", x, act{kind: done, id: 2}, api.OK)
	wantStatuses(t, "all", x, over, over, dropped, ready)
}

// TestP2402OtherBatches: a task comes to be Ready, or is dropped, also when it came with a later batch.
func TestP2402OtherBatches(t *testing.T) {
	acts := []act{admitting(spec(5)), admitting(spec(4, 5)), admitting(spec(3, 4, 5)), admitting(spec(2, 5), spec(1, 2))}
	x := made(t, 9, acts...)
	wantAct(t, "done", x, act{kind: done, id: 5}, api.OK, 2, 4)
	wantAct(t, "done", x, act{kind: done, id: 4}, api.OK, 3)
	x = made(t, 9, acts...)
	wantAct(t, "failed", x, act{kind: fail, id: 5}, api.OK, 1, 2, 3, 4)
	wantStatuses(t, "all", x, dropped, dropped, dropped, dropped, failed)
	x = made(t, 9, acts...)
	wantAct(t, "cancelled", x, act{kind: cancel, id: 4}, api.OK, 3, 4)
	wantStatuses(t, "all", x, pending, pending, dropped, dropped, ready)
}

func TestP2402FailAndCancel(t *testing.T) {
	acts := []act{admitting(spec(6), spec(2, 6), spec(9, 6), spec(1, 2, 8), spec(8), spec(3, 1), spec(7, 8), spec(4), spec(5, 1, 9))}
	x := made(t, 9, acts...)
	wantAct(t, "failed", x, act{kind: fail, id: 6}, api.OK, 1, 2, 3, 5, 9)
	wantStatuses(t, "all", x, dropped, dropped, dropped, ready, dropped, failed, pending, ready, dropped)
	wantAct(t, "failed, where some have ended", x, act{kind: fail, id: 8}, api.OK, 7)
	wantAct(t, "nobody behind it", x, act{kind: fail, id: 4}, api.OK)
	x = made(t, 9, acts...)
	wantAct(t, "cancelled", x, act{kind: cancel, id: 6}, api.OK, 1, 2, 3, 5, 6, 9)
	wantAct(t, "cancelled, where some have ended", x, act{kind: cancel, id: 8}, api.OK, 7, 8)
	wantAct(t, "nobody behind it", x, act{kind: cancel, id: 4}, api.OK, 4)
	x = made(t, 9, acts...)
	wantAct(t, "a Pending one", x, act{kind: cancel, id: 1}, api.OK, 1, 3, 5)
	wantAct(t, "one ahead of it", x, act{kind: cancel, id: 2}, api.OK, 2)
	wantAct(t, "one ahead of all", x, act{kind: fail, id: 6}, api.OK, 9)
}

// TestP2402ManyWays: what comes behind through many ways is told once.
func TestP2402ManyWays(t *testing.T) {
	l := specs(spec(1), spec(2))
	for id := 3; id < 63; id += 2 {
		l = append(l, spec(id, id-2, id-1), spec(id+1, id-2, id-1))
	}
	x := made(t, 64, act{kind: admit, batch: l})
	wantAct(t, "failed", x, act{kind: fail, id: 1}, api.OK, span(3, 62)...)
	x = made(t, 64, act{kind: admit, batch: l})
	wantAct(t, "cancelled", x, act{kind: cancel, id: 3}, api.OK, append([]int{3}, span(5, 62)...)...)
}

func TestP2403Waits(t *testing.T) {
	x := made(t, 9, admitting(spec(1), spec(2), spec(3, 1, 2), spec(4, 3), spec(5, 1, 2, 3, 4), spec(6, 1)))
	want := func(what string, ids ...int) {
		t.Helper()
		for i, n := range ids {
			if got := x.Waits(i); got != n {
				t.Errorf("%s: %d waits for %d, not %d", what, i, got, n)
			}
		}
	}
	want("at first", 0, 0, 0, 2, 1, 4, 1, 0)
	x.Done(1)
	want("1 is done", 0, 0, 0, 1, 1, 3, 0, 0)
	x.Fail(2)
	want("2 has failed", 0, 0, 0, 1, 1, 3, 0, 0)
	x.Done(6)
	want("6 is done", 0, 0, 0, 1, 1, 3, 0, 0)
	for _, id := range noIDs() {
		if got := [2]int{x.Waits(id), x.Status(id)}; got != [2]int{} {
			t.Errorf("%d: %d", id, got)
		}
	}
}

func TestP2403View(t *testing.T) {
	x := New(9)
	want := func(what, want string) {
		t.Helper()
		if got := fmt.Sprint(x.Len(), x.View()); got != want {
			t.Errorf("%s: %s, not %s", what, got, want)
		}
	}
	want("at first", "0 []")
	x.Admit(specs(spec(300, 4), spec(20), spec(4)))
	want("admitted", "3 [{{4 0 0 0 {0 0} {0 0} []} 2 0 0 0 []} {{20 0 0 0 {0 0} {0 0} []} 2 0 0 0 []} {{300 0 0 0 {0 0} {0 0} [4]} 1 0 0 0 []}]")
	x.Admit(specs(api.Spec{ID: 100, Prio: 5, Skill: 6, Gear: 7, From: api.Point{X: 8, Y: 9}, To: api.Point{X: 10, Y: 11}, After: []int{20, 300}}))
	x.Done(20)
	x.Fail(4)
	want("failed", "4 [{{4 0 0 0 {0 0} {0 0} []} 5 0 0 0 []} {{20 0 0 0 {0 0} {0 0} []} 4 0 0 0 []} {{100 5 6 7 {8 9} {10 11} [20 300]} 6 0 0 0 []} {{300 0 0 0 {0 0} {0 0} [4]} 6 0 0 0 []}]")
}

func TestNilStore(t *testing.T) {
	var x *Dag
	for _, l := range [][]api.Spec{nil, {}, specs(spec(1)), specs(spec(0)), specs(spec(1, 1)), row(1, 65)} {
		if ids, e := x.Admit(l); len(ids) > 0 || e != api.ErrFull {
			t.Errorf("Admit: %d, error %d", ids, e)
		}
	}
	for _, id := range append(noIDs(), 1, 999) {
		for k := done; k <= cancel; k++ {
			if ids, e := (act{kind: k, id: id}).do(x); len(ids) > 0 || e != api.ErrName {
				t.Errorf("%v: %d, error %d", act{kind: k, id: id}, ids, e)
			}
		}
		if x.Status(id) != 0 || x.Waits(id) != 0 {
			t.Errorf("%d: %d, waits for %d", id, x.Status(id), x.Waits(id))
		}
	}
	if x.Len() != 0 || len(x.View()) != 0 {
		t.Errorf("%d: %v", x.Len(), x.View())
	}
}

// eachRow tells all rows of so many acts behind those.
func eachRow(acts, of []act, many int, tell func(acts []act)) {
	if many == 0 {
		tell(acts)
		return
	}
	for _, a := range of {
		eachRow(append(slices.Clip(acts), a), of, many-1, tell)
	}
}

func TestP2404AllLittleRows(t *testing.T) {
	var of []act
	for id := 1; id <= 4; id++ {
		of = append(of, act{kind: done, id: id}, act{kind: fail, id: id}, act{kind: cancel, id: id})
	}
	// Each number tells by its bits which of the six arrows between four tasks there are.
	for arrows := range 1 << 6 {
		l := specs(spec(1), spec(2), spec(3), spec(4))
		bit := 0
		for to := 1; to < 4; to++ {
			for from := range to {
				if arrows>>bit&1 == 1 {
					l[to].After = append(l[to].After, from+1)
				}
				bit++
			}
		}
		eachRow([]act{{kind: admit, batch: l}}, of, 3, func(acts []act) { play(t, 4, acts) })
	}
}

func TestP2404AllLittleRowsWithBatches(t *testing.T) {
	of := []act{
		admitting(spec(2)), admitting(spec(1, 2)), admitting(spec(3, 1), spec(1)), admitting(spec(3, 2)), admitting(spec(4, 2, 3)), admitting(spec(1, 3), spec(3, 1)),
		{kind: done, id: 2}, {kind: done, id: 1}, {kind: fail, id: 2}, {kind: cancel, id: 2}, {kind: cancel, id: 3},
	}
	eachRow(nil, of, 4, func(acts []act) { play(t, 3, acts) })
}

// mixed is a row of acts about so many IDs.
func mixed(below func(n int) int, ids, many int) []act {
	var acts []act
	for range many {
		if below(3) > 0 {
			acts = append(acts, act{kind: kind(min(below(6), 3)) % 3, id: 1 + below(ids)})
			continue
		}
		var l []api.Spec
		for range 1 + below(5) {
			x := spec(1 + below(ids))
			x.Prio = below(100)
			for range below(4) {
				x.After = append(x.After, 1+below(ids))
			}
			slices.Sort(x.After)
			x.After = slices.DeleteFunc(slices.Compact(x.After), func(n int) bool { return n == x.ID })
			l = append(l, x)
		}
		acts = append(acts, act{kind: admit, batch: l})
	}
	return acts
}

func TestP2404MixedRows(t *testing.T) {
	below := lcg(24)
	var seen [17]int
	for range 4000 {
		for e, n := range play(t, 5+below(12), mixed(below, 4+below(12), 60)) {
			seen[e] += n
		}
	}
	for _, e := range []api.Errno{api.OK, api.ErrFull, api.ErrTwice, api.ErrName, api.ErrState, api.ErrRing} {
		if seen[e] < 100 {
			t.Errorf("error %d came %d times", e, seen[e])
		}
	}
}

// wide is a store's row where all arrows lead from lower IDs to higher ones, so that much is admitted.
func wide(below func(n int) int, many int) []act {
	var acts []act
	for id := 1; id <= many; id += 4 {
		var l []api.Spec
		for n := id; n < id+4; n++ {
			x := spec(n)
			for range below(4) {
				x.After = append(x.After, 1+below(n))
			}
			slices.Sort(x.After)
			x.After = slices.DeleteFunc(slices.Compact(x.After), func(m int) bool { return m == n })
			l = append(l, x)
		}
		acts = append(acts, act{kind: admit, batch: backward(l)})
	}
	for range 2 * many {
		k := done
		if below(12) == 0 {
			k = kind(below(3))
		}
		acts = append(acts, act{kind: k, id: 1 + below(many)})
	}
	return acts
}

func TestP2404WideRows(t *testing.T) {
	below := lcg(2404)
	for range 40 {
		play(t, 64, wide(below, 64))
	}
}

// TestLongBatches: batches of a hundred thousand end soon.
func TestLongBatches(t *testing.T) {
	var l []api.Spec
	for id := range 100_000 {
		l = append(l, spec(1+id%999))
	}
	x := made(t, 64, admitting(row(1, 60)...))
	wantAct(t, "long", x, act{kind: admit, batch: l[70:]}, api.ErrFull)
}

// TestArgumentsStay: neither what is handed in nor its spare room is changed, and what is changed later does not show.
func TestArgumentsStay(t *testing.T) {
	l := specs(spec(3, 1, 2), spec(1), spec(2), spec(900))[:3]
	l[0].After = append(l[0].After, 500)[:2]
	show := func() string { return fmt.Sprint(l[:4], l[0].After[:3]) }
	before := show()
	x := made(t, 9, act{kind: admit, batch: l})
	x.Done(1)
	x.Cancel(2)
	if after := show(); after != before {
		t.Errorf("%s became %s", before, after)
	}
	first := shown(x)
	l[0].After[0], l[0].Prio, l[1].ID = 9, 9, 9
	if again := shown(x); again != first {
		t.Errorf("%s, and then %s", first, again)
	}
}

// TestAnswersStay: whoever changes what was told changes not what is kept, and what was told stays when the store goes on.
func TestAnswersStay(t *testing.T) {
	x := New(9)
	free, _ := x.Admit(specs(spec(1), spec(2), spec(3, 1, 2), spec(4, 3)))
	before := x.View()
	text := fmt.Sprint(before)
	first := shown(x)
	spoilt := x.View()
	for i := range spoilt {
		spoilt[i].Status = over
		spoilt[i].Spec.ID = 77
		for j := range spoilt[i].Spec.After {
			spoilt[i].Spec.After[j] = 78
		}
	}
	free[0] = 79
	if again := shown(x); again != first {
		t.Errorf("%s, and then %s", first, again)
	}
	gone, _ := x.Cancel(2)
	gone[0] = 80
	wantStatuses(t, "behind it", x, ready, dropped, dropped, dropped)
	if again := fmt.Sprint(before); again != text {
		t.Errorf("%s became %s", text, again)
	}
}

// TestStoresStandApart: what one store goes through shows in no other one.
func TestStoresStandApart(t *testing.T) {
	l := row(1, 4)
	x, y := made(t, 9, act{kind: admit, batch: l}), made(t, 9, act{kind: admit, batch: l})
	before := shown(y)
	x.Done(1)
	x.Cancel(3)
	if after := shown(y); after != before {
		t.Errorf("%s became %s", before, after)
	}
}

func TestExamplesOfTheChapter(t *testing.T) {
	x := New(64)
	wantAct(t, "example 1", x, admitting(spec(1), spec(2, 1), spec(3, 2)), api.OK, 1)
	wantAct(t, "example 1", x, act{kind: done, id: 1}, api.OK, 2)
	wantAct(t, "example 1", x, act{kind: cancel, id: 2}, api.OK, 2, 3)
}

// actsOfBytes makes a room and acts of any bytes.
func actsOfBytes(p []byte) (int, []act) {
	take := func() int {
		if len(p) == 0 {
			return 0
		}
		n := int(p[0])
		p = p[1:]
		return n
	}
	room := take() % 20
	var acts []act
	for len(p) > 0 && len(acts) < 60 {
		a := act{kind: kind(take() % 4)}
		if a.kind != admit {
			a.id = take() % 12
			acts = append(acts, a)
			continue
		}
		for range take() % 6 {
			x := spec(take() % 12)
			for range take() % 10 {
				x.After = append(x.After, take()%12)
			}
			a.batch = append(a.batch, x)
		}
		acts = append(acts, a)
	}
	return room, acts
}

func FuzzRows(f *testing.F) {
	f.Add([]byte{9, 3, 3, 1, 0, 2, 1, 1, 3, 1, 2, 0, 1, 2, 2})
	f.Add([]byte{3, 3, 2, 1, 1, 2, 2, 1, 1, 0, 1})
	f.Fuzz(func(t *testing.T, p []byte) {
		room, acts := actsOfBytes(p)
		play(t, room, acts)
	})
}
