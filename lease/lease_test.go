package lease

import (
	"fmt"
	"math"
	"slices"
	"testing"

	"tallyman/api"
)

const (
	least    = math.MinInt
	greatest = math.MaxInt
	// These stand here by the chapter's digits.
	top     = 1<<31 - 1
	topLife = 1000
)

// numbers are of all kinds, some of which an int of fewer bits takes for one another.
func numbers() []int {
	return []int{least, least + 1, -1 << 32, -1<<32 + 5, -1 << 31, -5, -1, 0, 1, 5, 999, 1000, 1<<16 + 5, top, 1 << 31, 1 << 32, 1<<32 + 5, greatest - 1, greatest}
}

// lcg tells numbers that are mixed, the same ones each time.
func lcg(seed uint64) func(n int) int {
	return func(n int) int {
		seed = seed*6364136223846793005 + 1442695040888963407
		return int(seed>>33) % n
	}
}

// asked is a table, be it this package's or a reckoned one.
type asked interface {
	Open(task, worker, unit int, want []int) (int, api.Errno)
	Start(token, now int) (int, api.Errno)
	End(token int) (api.Lease, bool)
	Find(token int) (api.Lease, bool)
	Of(worker int) (int, bool)
	By(unit int) (int, bool)
	For(task int) (int, bool)
	Due(now int) []int
	View() []api.Lease
	Last() int
}

// reckoned is a table by the chapter's words: leases in the order in which they came, looked through each time.
type reckoned struct {
	life, last int
	leases     []api.Lease
}

func reckon(life, token int) *reckoned {
	return &reckoned{life: max(1, min(life, topLife)), last: max(0, min(token, top))}
}

// reckonLoad tells nil for ErrArg.
func reckonLoad(life, token int, l []api.Lease) *reckoned {
	r := reckon(life, token)
	for i, x := range l {
		if x.Token < 1 || x.Token > r.last || i > 0 && x.Token <= l[i-1].Token || x.Due < -1 || x.Due > top {
			return nil
		}
		for _, y := range l[:i] {
			if x.Worker == y.Worker || x.Unit == y.Unit || x.Task == y.Task {
				return nil
			}
		}
		x.Got, x.Want = 0, slices.Clone(x.Want)
		r.leases = append(r.leases, x)
	}
	return r
}

// one is the lease of which that is so, or nil.
func (r *reckoned) one(is func(x api.Lease) bool) *api.Lease {
	if i := slices.IndexFunc(r.leases, is); i >= 0 {
		return &r.leases[i]
	}
	return nil
}

func (r *reckoned) token(is func(x api.Lease) bool) (int, bool) {
	if x := r.one(is); x != nil {
		return x.Token, true
	}
	return 0, false
}

func (r *reckoned) Open(task, worker, unit int, want []int) (int, api.Errno) {
	taken := func(x api.Lease) bool { return x.Task == task || x.Worker == worker || x.Unit == unit }
	switch {
	case r.one(taken) != nil:
		return 0, api.ErrTwice
	case r.last == top:
		return 0, api.ErrFull
	}
	r.last++
	r.leases = append(r.leases, api.Lease{Token: r.last, Task: task, Worker: worker, Unit: unit, Due: -1, Want: slices.Clone(want)})
	return r.last, 0
}

func (r *reckoned) Start(token, now int) (int, api.Errno) {
	x := r.one(func(x api.Lease) bool { return x.Token == token })
	switch {
	case x == nil:
		return 0, api.ErrStale
	case x.Due != -1:
		return 0, api.ErrState
	}
	x.Due = min(max(0, min(now, top))+r.life, top)
	return x.Due, 0
}

func (r *reckoned) End(token int) (api.Lease, bool) {
	x, ok := r.Find(token)
	r.leases = slices.DeleteFunc(slices.Clone(r.leases), func(x api.Lease) bool { return x.Token == token })
	return x, ok
}

func (r *reckoned) Find(token int) (api.Lease, bool) {
	if x := r.one(func(x api.Lease) bool { return x.Token == token }); x != nil {
		return *x, true
	}
	return api.Lease{}, false
}

func (r *reckoned) Of(worker int) (int, bool) {
	return r.token(func(x api.Lease) bool { return x.Worker == worker })
}

func (r *reckoned) By(unit int) (int, bool) {
	return r.token(func(x api.Lease) bool { return x.Unit == unit })
}

func (r *reckoned) For(task int) (int, bool) {
	return r.token(func(x api.Lease) bool { return x.Task == task })
}

func (r *reckoned) Due(now int) []int {
	var l []int
	for _, x := range r.leases {
		if x.Due != -1 && x.Due <= now {
			l = append(l, x.Token)
		}
	}
	return l
}

func (r *reckoned) View() []api.Lease { return r.leases }

func (r *reckoned) Last() int { return r.last }

// same takes no list for an empty one.
func same(a, b api.Lease) bool {
	numbers := func(x api.Lease) [6]int { return [6]int{x.Token, x.Task, x.Worker, x.Unit, x.Due, x.Got} }
	return numbers(a) == numbers(b) && slices.Equal(a.Want, b.Want)
}

// act is something that a table goes through.
type act struct {
	kind kind
	// n is a task for open, a token for start and end.
	n, worker, unit, now int
	want                 []int
}

type kind int

const (
	open kind = iota
	start
	end
)

func opens(task, worker, unit int, want ...int) act {
	return act{kind: open, n: task, worker: worker, unit: unit, want: want}
}

func starts(token, now int) act { return act{kind: start, n: token, now: now} }

func ends(token int) act { return act{kind: end, n: token} }

// told is what was answered to an act.
type told struct {
	number int
	e      api.Errno
	lease  string
}

// do tells what was answered; what End tells is OK for true, and ErrNone for false.
func (a act) do(x asked) told {
	switch a.kind {
	case open:
		n, e := x.Open(a.n, a.worker, a.unit, a.want)
		return told{number: n, e: e}
	case start:
		n, e := x.Start(a.n, a.now)
		return told{number: n, e: e}
	}
	if l, ok := x.End(a.n); ok {
		return told{lease: fmt.Sprint(l)}
	} else if !same(l, api.Lease{}) {
		return told{e: api.ErrNone, lease: fmt.Sprint(l)}
	}
	return told{e: api.ErrNone}
}

func (a act) String() string {
	switch a.kind {
	case open:
		return fmt.Sprintf("Open(%d, %d, %d, %d)", a.n, a.worker, a.unit, a.want)
	case start:
		return fmt.Sprintf("Start(%d, %d)", a.n, a.now)
	}
	return fmt.Sprintf("End(%d)", a.n)
}

// brief is a text that is short enough to be looked at.
func brief(from string, acts []act) string {
	text := from
	for _, a := range acts {
		text += ", " + a.String()
	}
	if len(text) > 600 {
		text = text[:200] + " .. " + text[len(text)-380:]
	}
	return text
}

// nows are the times about what those leases are due at.
func nows(l []api.Lease) []int {
	times := []int{least, -2, -1, 0, 1, top, greatest}
	for _, x := range l {
		if x.Due != least && x.Due != greatest {
			times = append(times, x.Due-1, x.Due, x.Due+1)
		}
	}
	return times
}

// differs tells in what a table is not as the reckoned one, of its leases and of those numbers; "" for nothing.
func differs(x asked, r asked, numbers ...int) string {
	all := r.View()
	if got := x.View(); !slices.EqualFunc(got, all, same) {
		return fmt.Sprintf("View: %v, not %v", got, all)
	}
	if got, want := x.Last(), r.Last(); got != want {
		return fmt.Sprintf("Last: %d, not %d", got, want)
	}
	for _, now := range nows(all) {
		if got, want := x.Due(now), r.Due(now); !slices.Equal(got, want) {
			return fmt.Sprintf("Due(%d): %d, not %d", now, got, want)
		}
	}
	for _, l := range all {
		numbers = append(numbers, l.Token, l.Task, l.Worker, l.Unit)
	}
	for _, n := range numbers {
		a, is := x.Find(n)
		b, ok := r.Find(n)
		if !same(a, b) || is != ok {
			return fmt.Sprintf("Find(%d): %v, %t, not %v, %t", n, a, is, b, ok)
		}
		for i, of := range []func(x asked, n int) (int, bool){asked.Of, asked.By, asked.For} {
			a, is := of(x, n)
			b, ok := of(r, n)
			if a != b || is != ok {
				return fmt.Sprintf("%s(%d): %d, %t, not %d, %t", []string{"Of", "By", "For"}[i], n, a, is, b, ok)
			}
		}
	}
	return ""
}

// copied is what a table shows, in memory that it does not know.
func copied(x asked) *reckoned {
	r := &reckoned{last: x.Last()}
	for _, l := range x.View() {
		l.Want = slices.Clone(l.Want)
		r.leases = append(r.leases, l)
	}
	return r
}

// play does the acts with a table and a reckoned one, and asks that each act is answered alike, and that they show alike behind each.
// Ahead of each so many acts it goes on with what is loaded from what the table shows. It tells how often each error came.
func play(t *testing.T, life, token int, acts []act, reload int) [17]int {
	t.Helper()
	x, r := New(life, token), reckon(life, token)
	from := fmt.Sprintf("New(%d, %d)", life, token)
	var seen [17]int
	for i, a := range acts {
		if reload > 0 && i%reload == 0 {
			y, e := Load(life, x.Last(), x.View())
			if e != api.OK {
				t.Fatalf("%s: Load(%d, %d, %v): %d", brief(from, acts[:i]), life, x.Last(), x.View(), e)
			}
			x = y
		}
		got, want := a.do(x), a.do(r)
		if got != want {
			t.Fatalf("%s: %v, not %v", brief(from, acts[:i+1]), got, want)
		}
		if text := differs(x, r, a.n, a.worker, a.unit, 0); text != "" {
			t.Fatalf("%s: %s", brief(from, acts[:i+1]), text)
		}
		seen[got.e]++
	}
	return seen
}

// made is a table that has gone through acts, each of which was answered OK.
func made(t *testing.T, life, token int, acts ...act) *Table {
	t.Helper()
	x := New(life, token)
	for i, a := range acts {
		if got := a.do(x); got.e != api.OK {
			t.Fatalf("%s: %v", brief(fmt.Sprintf("New(%d, %d)", life, token), acts[:i+1]), got)
		}
	}
	return x
}

// wantAct: with an error nothing is told, and nothing has changed.
func wantAct(t *testing.T, what string, x *Table, a act, number int, e api.Errno) {
	t.Helper()
	before := copied(x)
	if got := a.do(x); got.e != e || got.number != number || got.e != api.OK && got.lease != "" {
		t.Errorf("%s: %v: %v, not %d %d", what, a, got, number, e)
	}
	if text := differs(x, before, a.n, a.worker, a.unit); (e == api.OK) == (text == "") {
		t.Errorf("%s: %v: error %d, and behind it: %q", what, a, e, text)
	}
}

// wantLeases: the leases of a table, as text.
func wantLeases(t *testing.T, what string, x *Table, want string) {
	t.Helper()
	if got := fmt.Sprint(x.View()); got != want {
		t.Errorf("%s: %s, not %s", what, got, want)
	}
}

func wantDue(t *testing.T, x *Table, now int, want ...int) {
	t.Helper()
	if got := x.Due(now); !slices.Equal(got, want) {
		t.Errorf("Due(%d): %d, not %d", now, got, want)
	}
}

func TestP2601New(t *testing.T) {
	for _, token := range append(numbers(), 2, top-1) {
		last := min(max(token, 0), top)
		x := New(9, token)
		if x == nil {
			t.Fatalf("New(9, %d): nil", token)
		}
		if text := differs(x, &reckoned{last: last}, numbers()...); text != "" {
			t.Errorf("New(9, %d): %s", token, text)
		}
		if last == top {
			wantAct(t, "the last token", x, opens(1, 2, 3), 0, api.ErrFull)
		} else {
			wantAct(t, "the next token", x, opens(1, 2, 3), last+1, api.OK)
		}
	}
}

// TestP2601Lives: how long a lease lasts.
func TestP2601Lives(t *testing.T) {
	for _, life := range append(numbers(), 2, 3, 998, 1001, 2000) {
		lasts := min(max(life, 1), topLife)
		x := made(t, life, 0, opens(1, 1, 1), opens(2, 2, 2))
		wantAct(t, fmt.Sprint("life ", life), x, starts(1, 0), lasts, api.OK)
		wantAct(t, fmt.Sprint("life ", life), x, starts(2, 70), 70+lasts, api.OK)
		wantDue(t, x, lasts-1)
		wantDue(t, x, lasts, 1)
		y, e := Load(life, 5, []api.Lease{{Token: 5, Due: -1}})
		if e != api.OK {
			t.Fatalf("Load(%d, ..): %d", life, e)
		}
		wantAct(t, fmt.Sprint("loaded, life ", life), y, starts(5, 0), lasts, api.OK)
	}
}

func TestP2601Open(t *testing.T) {
	x := New(5, 0)
	wantAct(t, "new", x, opens(3, 1, 2, 4), 1, api.OK)
	// That a task, a worker and a unit have one number, or numbers of one another, is nothing.
	wantAct(t, "new", x, opens(1, 2, 3, 9, 2, 2, -1), 2, api.OK)
	wantAct(t, "new", x, opens(2, 3, 1), 3, api.OK)
	wantAct(t, "new", x, opens(7, 7, 7, least, greatest, 0), 4, api.OK)
	wantLeases(t, "all", x, fmt.Sprintf("[{1 3 1 2 -1 0 [4]} {2 1 2 3 -1 0 [9 2 2 -1]} {3 2 3 1 -1 0 []} {4 7 7 7 -1 0 [%d %d 0]}]", least, greatest))
	if x.Last() != 4 {
		t.Errorf("Last: %d", x.Last())
	}
}

// TestP2601OpenAnyNumbers: tasks, workers and units are any numbers.
func TestP2601OpenAnyNumbers(t *testing.T) {
	x := New(5, 0)
	for i, n := range numbers() {
		others := numbers()
		slices.Reverse(others)
		wantAct(t, "any", x, opens(n, others[i], n), i+1, api.OK)
		if l, ok := x.Find(i + 1); !ok || !same(l, api.Lease{Token: i + 1, Task: n, Worker: others[i], Unit: n, Due: -1}) {
			t.Errorf("Find(%d): %v, %t", i+1, l, ok)
		}
	}
	for _, n := range numbers() {
		wantAct(t, "taken", x, opens(n, 77, 77), 0, api.ErrTwice)
		wantAct(t, "taken", x, opens(77, n, 77), 0, api.ErrTwice)
		wantAct(t, "taken", x, opens(77, 77, n), 0, api.ErrTwice)
	}
	wantAct(t, "free", x, opens(77, 77, 77), len(numbers())+1, api.OK)
}

func TestP2601OpenTwice(t *testing.T) {
	for _, first := range []act{opens(3, 1, 2, 4), opens(0, 0, 0), opens(-1, greatest, least)} {
		task, worker, unit := first.n, first.worker, first.unit
		for bits := range 8 {
			a := opens(55, 66, 77)
			if bits&1 != 0 {
				a.n = task
			}
			if bits&2 != 0 {
				a.worker = worker
			}
			if bits&4 != 0 {
				a.unit = unit
			}
			for _, acts := range [][]act{{first}, {opens(8, 8, 8), first}, {first, opens(8, 8, 8)}, {first, starts(1, 9)}} {
				x := made(t, 5, 0, acts...)
				if bits == 0 {
					wantAct(t, "new", x, a, len(x.View())+1, api.OK)
				} else {
					wantAct(t, "twice", x, a, 0, api.ErrTwice)
				}
			}
		}
	}
	// Of several leases each has one of them.
	x := made(t, 5, 0, opens(1, 11, 21), opens(2, 12, 22), opens(3, 13, 23))
	wantAct(t, "three have them", x, opens(1, 12, 23), 0, api.ErrTwice)
}

func TestP2601OpenFull(t *testing.T) {
	x := made(t, 5, top-2, opens(1, 1, 1))
	wantAct(t, "twice", x, opens(1, 2, 2), 0, api.ErrTwice)
	wantAct(t, "the last token", x, opens(2, 2, 2), top, api.OK)
	for range 2 {
		wantAct(t, "no token is left", x, opens(3, 3, 3), 0, api.ErrFull)
		wantAct(t, "twice, and no token is left", x, opens(2, 3, 3), 0, api.ErrTwice)
		wantAct(t, "twice, and no token is left", x, opens(3, 1, 3), 0, api.ErrTwice)
		wantAct(t, "twice, and no token is left", x, opens(3, 3, 2), 0, api.ErrTwice)
	}
	wantAct(t, "it runs", x, starts(top, 7), 12, api.OK)
	wantAct(t, "it ends", x, ends(top), 0, api.OK)
	wantAct(t, "it ends", x, ends(top-1), 0, api.OK)
	wantAct(t, "no token comes back", x, opens(2, 2, 2), 0, api.ErrFull)
}

// TestP2601OpenAgain: whoever has a lease no more may have one again, of a new token.
func TestP2601OpenAgain(t *testing.T) {
	x := made(t, 5, 0, opens(1, 2, 3), opens(4, 5, 6), starts(2, 8), ends(2))
	wantAct(t, "the same again", x, opens(4, 5, 6, 1), 3, api.OK)
	wantAct(t, "it ends", x, ends(1), 0, api.OK)
	wantAct(t, "it is gone", x, opens(1, 5, 3), 0, api.ErrTwice)
	wantAct(t, "the same again", x, opens(1, 2, 3), 4, api.OK)
	wantAct(t, "the one of old is gone", x, starts(1, 0), 0, api.ErrStale)
	wantLeases(t, "all", x, "[{3 4 5 6 -1 0 [1]} {4 1 2 3 -1 0 []}]")
}

func TestP2602StartTimes(t *testing.T) {
	for _, life := range []int{1, 2, 5, 999, 1000} {
		times := append(numbers(), top-life-1, top-life, top-life+1, top-1)
		for _, now := range times {
			x := made(t, life, 0, opens(1, 1, 1), opens(2, 2, 2, 4, 5))
			due := top
			if now < top-life {
				due = max(now, 0) + life
			}
			wantAct(t, fmt.Sprint("life ", life), x, starts(2, now), due, api.OK)
			wantLeases(t, "started", x, fmt.Sprintf("[{1 1 1 1 -1 0 []} {2 2 2 2 %d 0 [4 5]}]", due))
			wantDue(t, x, due-1)
			wantDue(t, x, due, 2)
		}
	}
}

func TestP2602StartErrors(t *testing.T) {
	x := made(t, 5, 7, opens(1, 1, 1), opens(2, 2, 2), starts(9, 0))
	for _, now := range []int{least, -1, 0, 5, 6, top, greatest} {
		wantAct(t, "it runs", x, starts(9, now), 0, api.ErrState)
		for _, token := range append(numbers(), 7, 10, 1<<32+8, 1<<32+9, -8) {
			wantAct(t, "no lease", x, starts(token, now), 0, api.ErrStale)
			wantAct(t, "no lease", New(5, 7), starts(token, now), 0, api.ErrStale)
		}
	}
	wantAct(t, "it doesn't run", x, starts(8, 4), 9, api.OK)
	wantAct(t, "it runs", x, starts(8, 4), 0, api.ErrState)
	wantAct(t, "it ends", x, ends(9), 0, api.OK)
	wantAct(t, "it is gone", x, starts(9, 4), 0, api.ErrStale)
	wantAct(t, "the other one runs", x, starts(8, 4), 0, api.ErrState)
}

// TestP2602StartLoaded: a lease runs from Due 0 on.
func TestP2602StartLoaded(t *testing.T) {
	for _, due := range []int{0, 1, 7, top - 1, top} {
		x, e := Load(5, 9, []api.Lease{{Token: 4, Due: due}})
		if e != api.OK {
			t.Fatalf("Load with Due %d: %d", due, e)
		}
		wantAct(t, "it runs", x, starts(4, 1), 0, api.ErrState)
		wantDue(t, x, due-1)
		wantDue(t, x, due, 4)
	}
	x, e := Load(5, 9, []api.Lease{{Token: 4, Due: -1}})
	if e != api.OK {
		t.Fatalf("Load with Due -1: %d", e)
	}
	wantAct(t, "it doesn't run", x, starts(4, 1), 6, api.OK)
}

func TestP2602End(t *testing.T) {
	acts := []act{opens(3, 1, 2, 4), opens(4, 2, 3), opens(5, 3, 1, 7, 7), starts(2, 9)}
	leases := []api.Lease{{Token: 1, Task: 3, Worker: 1, Unit: 2, Due: -1, Want: []int{4}}, {Token: 2, Task: 4, Worker: 2, Unit: 3, Due: 14}, {Token: 3, Task: 5, Worker: 3, Unit: 1, Due: -1, Want: []int{7, 7}}}
	// In all orders.
	for _, order := range [][]int{{0, 1, 2}, {0, 2, 1}, {1, 0, 2}, {1, 2, 0}, {2, 0, 1}, {2, 1, 0}} {
		x := made(t, 5, 0, acts...)
		left := slices.Clone(leases)
		for _, i := range order {
			for _, token := range []int{least, -1, 0, 4, 1<<32 + 1, 1<<32 + 2, greatest} {
				wantAct(t, "no lease", x, ends(token), 0, api.ErrNone)
			}
			if l, ok := x.End(i + 1); !ok || !same(l, leases[i]) {
				t.Errorf("End(%d): %v, %t, not %v", i+1, l, ok, leases[i])
			}
			left = slices.DeleteFunc(left, func(l api.Lease) bool { return l.Token == i+1 })
			if text := differs(x, &reckoned{last: 3, leases: left}, 0, 1, 2, 3, 4, 5); text != "" {
				t.Errorf("End(%d): %s", i+1, text)
			}
			wantAct(t, "gone", x, ends(i+1), 0, api.ErrNone)
		}
	}
	for _, token := range numbers() {
		wantAct(t, "nothing is there", New(5, 7), ends(token), 0, api.ErrNone)
	}
}

func TestP2603Finds(t *testing.T) {
	x := made(t, 5, 20, opens(1, 11, 101, 3), opens(2, 12, 102), opens(3, 13, 103), ends(22), starts(23, 7))
	for _, c := range []struct {
		token int
		lease api.Lease
	}{
		{21, api.Lease{Token: 21, Task: 1, Worker: 11, Unit: 101, Due: -1, Want: []int{3}}},
		{23, api.Lease{Token: 23, Task: 3, Worker: 13, Unit: 103, Due: 12}},
	} {
		if l, ok := x.Find(c.token); !ok || !same(l, c.lease) {
			t.Errorf("Find(%d): %v, %t", c.token, l, ok)
		}
		for name, found := range map[string]func() (int, bool){
			"Of":  func() (int, bool) { return x.Of(c.lease.Worker) },
			"By":  func() (int, bool) { return x.By(c.lease.Unit) },
			"For": func() (int, bool) { return x.For(c.lease.Task) },
		} {
			if token, ok := found(); !ok || token != c.token {
				t.Errorf("%s: %d, %t, not %d", name, token, ok, c.token)
			}
		}
	}
	// 2, 12 and 102 were of what has ended; the others are of another kind.
	for _, n := range append(numbers(), 2, 12, 22, 102) {
		wantNobody(t, x.Find, n)
		if n != 1 {
			wantNone(t, "For", x.For, n)
		}
		wantNone(t, "Of", x.Of, n)
		wantNone(t, "By", x.By, n)
	}
	for _, n := range []int{3, 13, 103} {
		wantNobody(t, x.Find, n)
	}
	wantNone(t, "Of", x.Of, 3)
	wantNone(t, "Of", x.Of, 103)
	wantNone(t, "By", x.By, 3)
	wantNone(t, "By", x.By, 13)
	wantNone(t, "For", x.For, 13)
	wantNone(t, "For", x.For, 103)
	if x.Last() != 23 {
		t.Errorf("Last: %d", x.Last())
	}
}

func wantNobody(t *testing.T, find func(int) (api.Lease, bool), token int) {
	t.Helper()
	if l, ok := find(token); ok || !same(l, api.Lease{}) {
		t.Errorf("Find(%d): %v, %t", token, l, ok)
	}
}

func wantNone(t *testing.T, name string, of func(int) (int, bool), n int) {
	t.Helper()
	if token, ok := of(n); ok || token != 0 {
		t.Errorf("%s(%d): %d, %t", name, n, token, ok)
	}
}

// TestP2603Due: those that are due are told by rising tokens, in whatever order they are due.
func TestP2603Due(t *testing.T) {
	x := made(t, 5, 0, opens(1, 1, 1), opens(2, 2, 2), opens(3, 3, 3), opens(4, 4, 4), opens(5, 5, 5),
		starts(4, 10), starts(1, 20), starts(5, 20), starts(2, 4))
	for _, now := range []int{least, -2, -1, 0, 5, 8} {
		wantDue(t, x, now)
	}
	wantDue(t, x, 9, 2)
	wantDue(t, x, 14, 2)
	wantDue(t, x, 15, 2, 4)
	wantDue(t, x, 24, 2, 4)
	for _, now := range []int{25, 26, top, 1 << 31, 1<<32 + 1, greatest} {
		wantDue(t, x, now, 1, 2, 4, 5)
	}
	// What is due stays till it ends.
	wantAct(t, "it ends", x, ends(4), 0, api.OK)
	wantDue(t, x, 25, 1, 2, 5)
	x = made(t, 1000, 0, opens(1, 1, 1), starts(1, greatest))
	wantDue(t, x, top-1)
	wantDue(t, x, top, 1)
}

// TestP2603DueAtZero: what is loaded may be due from 0 on; what doesn't run is never due.
func TestP2603DueAtZero(t *testing.T) {
	x, e := Load(5, 9, []api.Lease{{Token: 1, Due: -1}, {Token: 3, Task: 1, Worker: 1, Unit: 1, Due: 0}, {Token: 9, Task: 2, Worker: 2, Unit: 2, Due: top}})
	if e != api.OK {
		t.Fatalf("Load: %d", e)
	}
	for _, now := range []int{least, -2, -1} {
		wantDue(t, x, now)
	}
	for _, now := range []int{0, 1, top - 1} {
		wantDue(t, x, now, 3)
	}
	for _, now := range []int{top, 1 << 31, greatest} {
		wantDue(t, x, now, 3, 9)
	}
}

// tryLoad asks that a list is loaded just if the chapter says so, and then shows as the chapter says.
func tryLoad(t *testing.T, life, token int, l []api.Lease) bool {
	t.Helper()
	x, e := Load(life, token, l)
	r := reckonLoad(life, token, l)
	if r == nil {
		if e != api.ErrArg || x != nil {
			t.Fatalf("Load(%d, %d, %v): %v, %d, not nil, %d", life, token, l, x, e, api.ErrArg)
		}
		return false
	}
	if e != api.OK || x == nil {
		t.Fatalf("Load(%d, %d, %v): %d", life, token, l, e)
	}
	if text := differs(x, r, -1, 0, 1, 2, 3, token); text != "" {
		t.Fatalf("Load(%d, %d, %v): %s", life, token, l, text)
	}
	return true
}

func wantLoad(t *testing.T, is bool, token int, l ...api.Lease) {
	t.Helper()
	if loaded := tryLoad(t, 5, token, l); loaded != is {
		t.Errorf("Load(5, %d, %v): %t, not %t", token, l, loaded, is)
	}
}

// three are leases that may be loaded, when the last token is from 7 on.
func three() []api.Lease {
	return []api.Lease{
		{Token: 2, Task: 1, Worker: 11, Unit: 101, Due: -1, Want: []int{4, 5}},
		{Token: 4, Task: 2, Worker: 12, Unit: 102, Due: 9},
		{Token: 7, Task: 3, Worker: 13, Unit: 103, Due: -1, Want: []int{5, 4, 4, -1}},
	}
}

func TestP2605Load(t *testing.T) {
	for _, token := range numbers() {
		wantLoad(t, true, token)
		wantLoad(t, token >= 7, token, three()...)
	}
	wantLoad(t, true, 7, three()...)
	wantLoad(t, false, 6, three()...)
	x, e := Load(5, 8, three())
	if e != api.OK {
		t.Fatalf("Load: %d", e)
	}
	wantAct(t, "the next token", x, opens(4, 14, 104), 9, api.OK)
	wantAct(t, "taken", x, opens(1, 15, 105), 0, api.ErrTwice)
	wantAct(t, "taken", x, opens(5, 12, 105), 0, api.ErrTwice)
	wantAct(t, "taken", x, opens(5, 15, 103), 0, api.ErrTwice)
	wantAct(t, "it ends", x, ends(4), 0, api.OK)
	wantAct(t, "free again", x, opens(2, 12, 102), 10, api.OK)
}

func TestP2605LoadTokens(t *testing.T) {
	for _, token := range numbers() {
		for _, last := range append(numbers(), top-1) {
			wantLoad(t, token >= 1 && token <= min(last, top), last, api.Lease{Token: token, Due: -1})
		}
	}
	// At each place, against what stands ahead of it and behind it.
	for i := range 3 {
		for _, token := range append(numbers(), 2, 3, 4, 6, 7, 8, 9, 10) {
			l := three()
			l[i].Token = token
			rises := l[0].Token < l[1].Token && l[1].Token < l[2].Token
			wantLoad(t, rises && l[0].Token >= 1 && l[2].Token <= 9, 9, l...)
		}
	}
	l := three()
	wantLoad(t, false, 9, l[2], l[1], l[0])
	wantLoad(t, false, 9, l[0], l[2], l[1])
	wantLoad(t, false, 9, l[1], l[0], l[2])
}

func TestP2605LoadDues(t *testing.T) {
	for i := range 3 {
		for _, due := range append(numbers(), -2, top-1) {
			l := three()
			l[i].Due = due
			wantLoad(t, due >= -1 && due <= top, 9, l...)
		}
	}
}

// TestP2605LoadTwice: a worker, a unit, a task that two have, wherever they stand.
func TestP2605LoadTwice(t *testing.T) {
	for i := range 3 {
		for j := range 3 {
			if i == j {
				continue
			}
			l := three()
			l[i].Task = l[j].Task
			wantLoad(t, false, 9, l...)
			l = three()
			l[i].Worker = l[j].Worker
			wantLoad(t, false, 9, l...)
			l = three()
			l[i].Unit = l[j].Unit
			wantLoad(t, false, 9, l...)
			// Numbers of another kind are others.
			l = three()
			l[i].Task, l[i].Worker, l[i].Unit = l[j].Worker, l[j].Unit, l[j].Task
			wantLoad(t, true, 9, l...)
		}
	}
	for _, n := range numbers() {
		wantLoad(t, true, 9, api.Lease{Token: 1, Task: n, Worker: n, Unit: n, Due: -1}, api.Lease{Token: 2, Task: 77, Worker: 77, Unit: 77, Due: -1})
		wantLoad(t, false, 9, api.Lease{Token: 1, Task: n, Worker: n, Unit: n, Due: -1}, api.Lease{Token: 2, Task: n, Worker: 77, Unit: 77, Due: -1})
	}
}

// TestP2605LoadGot: how many aisles it has is not asked, and is 0 in the table.
func TestP2605LoadGot(t *testing.T) {
	for _, got := range numbers() {
		l := three()
		l[0].Got, l[2].Got = got, 2
		wantLoad(t, true, 9, l...)
		x, _ := Load(5, 9, l)
		if a, _ := x.Find(2); a.Got != 0 {
			t.Errorf("Got %d: Find: %v", got, a)
		}
		if a := x.View(); a[0].Got != 0 || a[2].Got != 0 {
			t.Errorf("Got %d: View: %v", got, a)
		}
		if a, _ := x.End(7); a.Got != 0 {
			t.Errorf("Got %d: End: %v", got, a)
		}
	}
}

// TestP2605AllLittleOnes: all lists of up to two leases with little numbers, and all last tokens about them.
func TestP2605AllLittleOnes(t *testing.T) {
	var of []api.Lease
	for token := range 4 {
		for bits := range 8 {
			for due := -2; due <= 0; due++ {
				of = append(of, api.Lease{Token: token, Task: bits & 1, Worker: bits >> 1 & 1, Unit: bits >> 2, Due: due})
			}
		}
	}
	loaded := 0
	try := func(l ...api.Lease) {
		for last := range 4 {
			if tryLoad(t, 5, last, l) {
				loaded++
			}
		}
	}
	for _, a := range of {
		try(a)
		for _, b := range of {
			try(a, b)
		}
	}
	if loaded < 200 {
		t.Errorf("just %d were loaded", loaded)
	}
}

// mixedLeases are so many leases that are right but for what is spoilt now and then.
func mixedLeases(below func(n int) int, many int) []api.Lease {
	var l []api.Lease
	token := 0
	for i := range many {
		token += 1 + below(3)
		x := api.Lease{Token: token, Task: i, Worker: many - i, Unit: i * 2, Due: below(9) - 1, Got: below(3)}
		for range below(4) {
			x.Want = append(x.Want, below(40)-2)
		}
		l = append(l, x)
	}
	if many > 0 && below(2) == 0 {
		x := &l[below(many)]
		for _, n := range []*int{&x.Token, &x.Task, &x.Worker, &x.Unit, &x.Due}[below(5):] {
			*n = below(2*many+3) - 2
			if below(3) > 0 {
				break
			}
		}
	}
	return l
}

func TestP2605MixedLists(t *testing.T) {
	below := lcg(2605)
	loaded := 0
	for range 5000 {
		l := mixedLeases(below, below(20))
		if tryLoad(t, below(1100), below(50), l) {
			loaded++
		}
	}
	if loaded < 1000 || loaded > 4000 {
		t.Errorf("%d were loaded", loaded)
	}
}

// laws follow a table by what it answers alone.
type laws struct {
	t    *testing.T
	x    *Table
	life int
	// given has each token that was given, and started when its lease was, as that counts.
	given   map[int]bool
	started map[int]int
}

func follow(t *testing.T, life, token int, acts []act) {
	t.Helper()
	s := laws{t, New(life, token), min(max(life, 1), topLife), map[int]bool{}, map[int]int{}}
	for _, a := range acts {
		switch got := a.do(s.x); {
		case got.e != api.OK:
		case a.kind == open:
			if s.given[got.number] || got.number <= max(token, 0) {
				t.Fatalf("%v: token %d is given again", a, got.number)
			}
			s.given[got.number] = true
		case a.kind == start:
			s.started[a.n] = min(max(a.now, 0), top)
		case a.kind == end:
			delete(s.started, a.n)
		}
		s.hold(a)
	}
}

func (s laws) hold(a act) {
	s.t.Helper()
	tasks, workers, units := map[int]int{}, map[int]int{}, map[int]int{}
	ahead := 0
	for _, l := range s.x.View() {
		if l.Token <= ahead || l.Token > s.x.Last() || !s.given[l.Token] {
			s.t.Fatalf("behind %v: token %d behind %d, last %d", a, l.Token, ahead, s.x.Last())
		}
		if tasks[l.Task] != 0 || workers[l.Worker] != 0 || units[l.Unit] != 0 {
			s.t.Fatalf("behind %v: two have one: %v", a, s.x.View())
		}
		tasks[l.Task], workers[l.Worker], units[l.Unit] = l.Token, l.Token, l.Token
		ahead = l.Token
		at, runs := s.started[l.Token]
		if runs != (l.Due >= 0) || !runs && l.Due != -1 || l.Due > top || runs && l.Due-at != s.life && l.Due != top || l.Due-at > s.life {
			s.t.Fatalf("behind %v: %v started at %d, %t, and lasts %d", a, l, at, runs, s.life)
		}
		if runs && (slices.Contains(s.x.Due(l.Due-1), l.Token) || !slices.Contains(s.x.Due(l.Due), l.Token)) {
			s.t.Fatalf("behind %v: %v is due at %d", a, l, s.x.Due(l.Due))
		}
	}
	for _, of := range []struct {
		held map[int]int
		ask  func(int) (int, bool)
	}{{tasks, s.x.For}, {workers, s.x.Of}, {units, s.x.By}} {
		for n, token := range of.held {
			if got, ok := of.ask(n); !ok || got != token {
				s.t.Fatalf("behind %v: %d has %d, %t, not %d: %v", a, n, got, ok, token, s.x.View())
			}
		}
	}
	for _, now := range nows(s.x.View()) {
		for _, token := range s.x.Due(now) {
			if l, ok := s.x.Find(token); !ok || l.Due < 0 || l.Due > now {
				s.t.Fatalf("behind %v: Due(%d): %d, which is %v", a, now, token, l)
			}
		}
	}
}

// eachRow tells all rows of so many acts behind those.
func eachRow(acts, of []act, many int, tell func(acts []act)) {
	if many == 0 {
		tell(acts)
		return
	}
	for _, a := range of {
		eachRow(append(slices.Clip(acts), a), of, many-1, tell)
	}
}

func TestP2604AllLittleRows(t *testing.T) {
	var of []act
	for bits := range 8 {
		of = append(of, opens(bits&1, bits>>1&1, bits>>2, bits))
	}
	for token := 1; token <= 2; token++ {
		of = append(of, starts(token, 0), starts(token, 1), ends(token))
	}
	rows := 0
	eachRow(nil, of, 4, func(acts []act) {
		play(t, 3, 0, acts, 0)
		rows++
		if rows%5 == 0 {
			play(t, 3, 0, acts, 1)
			follow(t, 3, 0, acts)
		}
	})
	// The last tokens that there are.
	for i := range of {
		if of[i].kind != open {
			of[i].n += top - 2
		}
	}
	eachRow(nil, of, 3, func(acts []act) {
		play(t, 3, top-2, acts, 0)
		play(t, 3, top-2, acts, 2)
		follow(t, 3, top-2, acts)
	})
}

// mixed is a row of acts about so many numbers, behind that token.
func mixed(below func(n int) int, token, few, many int) []act {
	var acts []act
	one := func() int {
		if below(60) == 0 {
			return numbers()[below(len(numbers()))]
		}
		return below(few)
	}
	given := 0
	for range many {
		// Mostly one of the tokens that were given of late.
		n := max(token, 0) + max(1, given-below(few+1))
		if below(30) == 0 {
			n = one()
		}
		switch below(5) {
		case 0, 1:
			a := opens(one(), one(), one())
			for range below(4) {
				a.want = append(a.want, one())
			}
			acts = append(acts, a)
			if below(2) == 0 {
				given++
			}
		case 2:
			acts = append(acts, ends(n))
		default:
			acts = append(acts, starts(n, one()*(1+below(900))))
		}
	}
	return acts
}

func TestP2604MixedRows(t *testing.T) {
	below := lcg(26)
	var seen [17]int
	for range 700 {
		life, token := below(1100)-20, []int{-5, 0, 7, 1 << 16, top - 1000, top - 20, top - 3, top, greatest}[below(9)]
		acts := mixed(below, min(token, top), 1+below(24), 100)
		for e, n := range play(t, life, token, acts, 0) {
			seen[e] += n
		}
		play(t, life, token, acts, 1+below(5))
		follow(t, life, token, acts)
	}
	for _, e := range []api.Errno{api.OK, api.ErrTwice, api.ErrFull, api.ErrStale, api.ErrState, api.ErrNone} {
		if seen[e] < 1000 {
			t.Errorf("error %d came %d times", e, seen[e])
		}
	}
}

// TestManyLeases: there is no limit on how many leases a table has.
func TestManyLeases(t *testing.T) {
	const many = 100_000
	x := New(7, 0)
	for n := 1; n <= many; n++ {
		if token, e := x.Open(n, -n, many-n, []int{n}); token != n || e != api.OK {
			t.Fatalf("Open(%d, ..): %d, %d", n, token, e)
		}
	}
	for token := many; token > 0; token -= 2 {
		if due, e := x.Start(token, token); due != token+7 || e != api.OK {
			t.Fatalf("Start(%d, ..): %d, %d", token, due, e)
		}
	}
	if l := x.Due(many); len(l) != many/2-4 || !slices.IsSorted(l) {
		t.Errorf("Due: %d leases", len(l))
	}
	x, e := Load(7, x.Last(), x.View())
	if e != api.OK || len(x.View()) != many {
		t.Fatalf("Load: %d", e)
	}
	for token := many; token > many-1000; token-- {
		if l, ok := x.End(token); !ok || l.Task != token {
			t.Fatalf("End(%d): %v, %t", token, l, ok)
		}
	}
	if token, ok := x.By(many / 2); token != many/2 || !ok || len(x.View()) != many-1000 {
		t.Errorf("By: %d, %t, of %d leases", token, ok, len(x.View()))
	}
}

func TestNilTable(t *testing.T) {
	var x *Table
	for _, n := range numbers() {
		wantAct(t, "nil", x, opens(n, n, n, n), 0, api.ErrFull)
		wantAct(t, "nil", x, opens(1, n, 3), 0, api.ErrFull)
		wantAct(t, "nil", x, starts(n, n), 0, api.ErrStale)
		wantAct(t, "nil", x, ends(n), 0, api.ErrNone)
		wantNobody(t, x.Find, n)
		wantNone(t, "Of", x.Of, n)
		wantNone(t, "By", x.By, n)
		wantNone(t, "For", x.For, n)
		wantDue(t, x, n)
	}
	wantLeases(t, "nil", x, "[]")
	if x.Last() != 0 {
		t.Errorf("Last: %d", x.Last())
	}
}

// TestArgumentsStay: what is handed in is not changed, its spare room neither, and whoever changes it later changes no table.
func TestArgumentsStay(t *testing.T) {
	x := New(5, 0)
	want := []int{4, 2, 9, 77, 78}
	x.Open(1, 1, 1, want[:3])
	x.Open(2, 2, 2, want[:0])
	l := append(three(), api.Lease{Token: 77}, api.Lease{Token: 78})
	l[0].Got = 3
	text := fmt.Sprint(l, want)
	y, e := Load(5, 9, l[:3])
	if e != api.OK {
		t.Fatalf("Load: %d", e)
	}
	for _, z := range []*Table{x, y} {
		a := z.View()[0]
		z.Start(a.Token, 5)
		z.Open(8, 8, 8, []int{8})
		z.End(a.Token)
		z.Open(9, 9, 9, nil)
	}
	if again := fmt.Sprint(l, want); again != text {
		t.Errorf("%s became %s", text, again)
	}
	x, y = New(5, 0), nil
	x.Open(1, 1, 1, want[:3])
	y, _ = Load(5, 9, l[:3])
	before := fmt.Sprint(x.View(), y.View())
	want[0], l[0].Want[0], l[1].Token, l[2].Task = 0, 0, 0, 0
	if after := fmt.Sprint(x.View(), y.View()); after != before {
		t.Errorf("%s became %s", before, after)
	}
}

// TestAnswersStay: whoever changes what was told changes not what is kept, and what was told stays when the table goes on.
func TestAnswersStay(t *testing.T) {
	acts := []act{opens(1, 2, 3, 4, 5), opens(2, 3, 4, 6), opens(3, 4, 5), starts(1, 7), starts(2, 7)}
	x := made(t, 5, 0, acts...)
	first := copied(x)
	one, _ := x.Find(1)
	one.Want[0] = 99
	for i, l := range x.View() {
		if len(l.Want) > 0 {
			l.Want[0] = 99
		}
		x.View()[i] = api.Lease{}
		_ = append(l.Want, 98)
	}
	due := x.Due(99)
	due[0] = 99
	_ = append(x.Due(99), 98)
	if text := differs(x, first, 1, 2, 3, 99); text != "" {
		t.Errorf("what was told was changed: %s", text)
	}
	x = made(t, 5, 0, acts...)
	all, due := x.View(), x.Due(99)
	one, _ = x.Find(2)
	gone, _ := x.End(2)
	text := fmt.Sprint(all, due, one, gone)
	x.Start(3, 1)
	x.End(1)
	x.Open(5, 6, 7, []int{1, 2, 3})
	x.Open(6, 7, 8, []int{1, 2, 3})
	if again := fmt.Sprint(all, due, one, gone); again != text {
		t.Errorf("%s became %s", text, again)
	}
}

// TestTablesStandApart: what one table goes through shows in no other one.
func TestTablesStandApart(t *testing.T) {
	acts := []act{opens(1, 2, 3, 4), opens(2, 3, 4), starts(1, 7)}
	x, y := made(t, 5, 0, acts...), made(t, 5, 0, acts...)
	z, e := Load(5, x.Last(), x.View())
	if e != api.OK {
		t.Fatalf("Load: %d", e)
	}
	before := copied(x)
	x.End(1)
	x.Start(2, 9)
	x.Open(7, 8, 9, nil)
	for _, other := range []*Table{y, z} {
		if text := differs(other, before, 7, 8, 9); text != "" {
			t.Error(text)
		}
	}
}

func TestExamplesOfTheChapter(t *testing.T) {
	x := New(5, 0)
	wantAct(t, "example 1", x, opens(3, 1, 2, 4), 1, api.OK)
	wantAct(t, "example 1", x, starts(1, 7), 12, api.OK)
	wantDue(t, x, 11)
	wantDue(t, x, 12, 1)
}

// rowOfBytes makes a life, a last token and acts of any bytes.
func rowOfBytes(p []byte) (int, int, []act) {
	next := func() int {
		if len(p) == 0 {
			return 0
		}
		n := int(p[0])
		p = p[1:]
		return n
	}
	life := next() * 5
	token := next()
	if token > 99 {
		token = top + 100 - token
	}
	var acts []act
	for len(p) > 0 && len(acts) < 100 {
		switch kind(next() % 3) {
		case open:
			a := opens(next()%20, next()%20, next()%20)
			for range next() % 4 {
				a.want = append(a.want, next())
			}
			acts = append(acts, a)
		case start:
			acts = append(acts, starts(min(token, top)+next()%20, next()*9_000_000-9))
		default:
			acts = append(acts, ends(min(token, top)+next()%20))
		}
	}
	return life, token, acts
}

func FuzzRows(f *testing.F) {
	f.Add([]byte{1, 0, 0, 3, 1, 2, 1, 4, 1, 1, 7, 0, 4, 1, 3, 0, 0, 4, 2, 3, 0, 2, 1})
	f.Add([]byte{9, 102, 0, 1, 1, 1, 0, 0, 2, 2, 2, 0, 0, 3, 3, 3, 0, 1, 1, 250, 2, 2})
	f.Fuzz(func(t *testing.T, p []byte) {
		life, token, acts := rowOfBytes(p)
		play(t, life, token, acts, 0)
		play(t, life, token, acts, 3)
		follow(t, life, token, acts)
	})
}

// listOfBytes is a last token and leases whose numbers are little, so that they are right now and then.
func listOfBytes(p []byte) (int, []api.Lease) {
	if len(p) == 0 {
		return 0, nil
	}
	token := int(int8(p[0]))
	var l []api.Lease
	for p = p[1:]; len(p) >= 5; p = p[5:] {
		l = append(l, api.Lease{Token: int(int8(p[0])), Task: int(int8(p[1])), Worker: int(int8(p[2])), Unit: int(int8(p[3])), Due: int(p[4]) - 2, Got: len(p)})
	}
	return token, l
}

func FuzzLoad(f *testing.F) {
	f.Add([]byte{})
	f.Add([]byte{9, 1, 1, 2, 3, 1, 4, 2, 3, 1, 7})
	f.Add([]byte{9, 1, 1, 2, 3, 1, 9, 2, 3, 3, 7})
	f.Fuzz(func(t *testing.T, p []byte) {
		token, l := listOfBytes(p)
		tryLoad(t, 5, token, l)
	})
}
