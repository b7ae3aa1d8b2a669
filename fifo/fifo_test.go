package fifo

import (
	"fmt"
	"math"
	"slices"
	"strings"
	"testing"

	"tallyman/api"
)

const (
	least    = math.MinInt
	greatest = math.MaxInt
	// This stands here by the chapter's digits.
	topRoom = 1_024
)

// edges are numbers at both ends of an int, such as an int of fewer bits takes for one another, and such as a ring might.
func edges() []int {
	return []int{least, least + 1, -1 << 32, -topRoom, -2, -1, 0, 1, 2, topRoom - 1, topRoom, topRoom + 1, 1 << 31, 1 << 32, 1<<32 + 1, greatest - 1, greatest}
}

func nearestRoom(n int) int {
	if n < 0 {
		return 0
	}
	if n > topRoom {
		return topRoom
	}
	return n
}

// asked is a queue, be it this package's or a reckoned one.
type asked interface {
	Put(x int) api.Errno
	Take() (int, bool)
	Drop(x int) bool
	First() (int, bool)
	At(x int) int
	List() []int
	Len() int
	Room() int
}

// reckoned is a queue by the chapter's words: a list in the order in which its numbers came.
type reckoned struct {
	room    int
	numbers []int
}

func reckon(room int) *reckoned { return &reckoned{room: nearestRoom(room)} }

func (r *reckoned) Put(x int) api.Errno {
	switch {
	case r.At(x) >= 0:
		return api.ErrTwice
	case len(r.numbers) == r.room:
		return api.ErrFull
	}
	r.numbers = append(r.numbers, x)
	return api.OK
}

func (r *reckoned) Take() (int, bool) {
	if len(r.numbers) == 0 {
		return 0, false
	}
	x := r.numbers[0]
	r.numbers = r.numbers[1:]
	return x, true
}

func (r *reckoned) Drop(x int) bool {
	at := r.At(x)
	if at < 0 {
		return false
	}
	r.numbers = slices.Concat(r.numbers[:at], r.numbers[at+1:])
	return true
}

func (r *reckoned) First() (int, bool) {
	if len(r.numbers) == 0 {
		return 0, false
	}
	return r.numbers[0], true
}

func (r *reckoned) At(x int) int {
	for i, y := range r.numbers {
		if y == x {
			return i
		}
	}
	return -1
}

func (r *reckoned) List() []int { return r.numbers }

func (r *reckoned) Len() int { return len(r.numbers) }

func (r *reckoned) Room() int { return r.room }

// act is something that a queue goes through.
type act struct {
	kind kind
	x    int
}

type kind int

const (
	put kind = iota
	take
	drop
)

// do tells what was answered.
func (a act) do(q asked) (int, bool) {
	switch a.kind {
	case put:
		return int(q.Put(a.x)), false
	case take:
		return q.Take()
	}
	return 0, q.Drop(a.x)
}

func (a act) String() string {
	switch a.kind {
	case put:
		return fmt.Sprintf("Put(%d)", a.x)
	case take:
		return "Take"
	}
	return fmt.Sprintf("Drop(%d)", a.x)
}

func row(room int, acts []act) string {
	var b strings.Builder
	fmt.Fprintf(&b, "New(%d)", room)
	for _, a := range acts {
		b.WriteString(", " + a.String())
	}
	return b.String()
}

// play does the acts with a queue and a reckoned one, and asks that each act is answered alike, and that they hold alike at the end.
func play(t *testing.T, room int, acts []act) {
	t.Helper()
	q, r := New(room), reckon(room)
	for i, a := range acts {
		n, ok := a.do(q)
		wantN, wantOK := a.do(r)
		if n != wantN || ok != wantOK {
			t.Fatalf("%s: %d %t, not %d %t", row(room, acts[:i+1]), n, ok, wantN, wantOK)
		}
	}
	holdAlike(t, func() string { return row(room, acts) }, q, r)
}

// holdAlike asks for all that is in them, without a change; what happened is spelt out only where they differ.
func holdAlike(t *testing.T, what func() string, q *Queue, r *reckoned) {
	t.Helper()
	if q.Len() != r.Len() || q.Room() != r.Room() {
		t.Fatalf("%s: Len %d, Room %d, not %d, %d", what(), q.Len(), q.Room(), r.Len(), r.Room())
	}
	x, ok := q.First()
	wantX, wantOK := r.First()
	if x != wantX || ok != wantOK {
		t.Fatalf("%s: First: %d %t, not %d %t", what(), x, ok, wantX, wantOK)
	}
	if l := q.List(); !slices.Equal(l, r.numbers) {
		t.Fatalf("%s: List: %d, not %d", what(), l, r.numbers)
	}
	for _, x := range append(edges(), r.numbers...) {
		if got, want := q.At(x), r.At(x); got != want {
			t.Fatalf("%s: At(%d): %d, not %d", what(), x, got, want)
		}
	}
}

// takeAlike takes till nothing is left: whatever the queue is like inside, all must come in their order.
func takeAlike(t *testing.T, what func() string, q *Queue, r *reckoned) {
	t.Helper()
	for _, want := range r.numbers {
		if x, ok := q.Take(); x != want || !ok {
			t.Fatalf("%s: Take: %d %t, not %d", what(), x, ok, want)
		}
	}
	wantNothing(t, what()+", and all taken", q)
}

func wantPut(t *testing.T, q *Queue, x int, want api.Errno) {
	t.Helper()
	if got := q.Put(x); got != want {
		t.Errorf("Put(%d): %d, not %d", x, got, want)
	}
}

func wantTake(t *testing.T, q *Queue, want int, is bool) {
	t.Helper()
	if x, ok := q.Take(); x != want || ok != is {
		t.Errorf("Take: %d %t, not %d %t", x, ok, want, is)
	}
}

func wantDrop(t *testing.T, q *Queue, x int, want bool) {
	t.Helper()
	if got := q.Drop(x); got != want {
		t.Errorf("Drop(%d): %t, not %t", x, got, want)
	}
}

func wantFirst(t *testing.T, q *Queue, want int, is bool) {
	t.Helper()
	if x, ok := q.First(); x != want || ok != is {
		t.Errorf("First: %d %t, not %d %t", x, ok, want, is)
	}
}

func wantAt(t *testing.T, q *Queue, x, want int) {
	t.Helper()
	if got := q.At(x); got != want {
		t.Errorf("At(%d): %d, not %d", x, got, want)
	}
}

func wantRoom(t *testing.T, q *Queue, want int) {
	t.Helper()
	if got := q.Room(); got != want {
		t.Errorf("Room: %d, not %d", got, want)
	}
}

// wantList asks for First, At and Len too.
func wantList(t *testing.T, q *Queue, want ...int) {
	t.Helper()
	if l := q.List(); !slices.Equal(l, want) {
		t.Errorf("List: %d, not %d", l, want)
	}
	if q.Len() != len(want) {
		t.Errorf("Len: %d, not %d", q.Len(), len(want))
	}
	for at, x := range want {
		wantAt(t, q, x, at)
	}
	if len(want) > 0 {
		wantFirst(t, q, want[0], true)
	} else {
		wantFirst(t, q, 0, false)
	}
}

// wantNothing asks such numbers too as nothing might be mistaken for.
func wantNothing(t *testing.T, what string, q *Queue) {
	t.Helper()
	x, ok := q.First()
	y, ok2 := q.Take()
	if x != 0 || ok || y != 0 || ok2 || q.Len() != 0 || len(q.List()) != 0 {
		t.Fatalf("%s: First: %d %t, Take: %d %t, Len: %d, List: %d", what, x, ok, y, ok2, q.Len(), q.List())
	}
	for _, x := range edges() {
		if q.At(x) != -1 || q.Drop(x) {
			t.Fatalf("%s: At(%d): %d, or it is dropped", what, x, q.At(x))
		}
	}
}

// queueOf has these numbers, and room for so many, behind turns that were put and taken ahead of them.
func queueOf(t *testing.T, room, turns int, numbers ...int) *Queue {
	t.Helper()
	q := New(room)
	for n := range turns {
		if e := q.Put(n); e != api.OK {
			t.Fatalf("Put(%d): %d", n, e)
		}
		if x, ok := q.Take(); x != n || !ok {
			t.Fatalf("Take: %d %t, not %d", x, ok, n)
		}
	}
	for _, x := range numbers {
		if e := q.Put(x); e != api.OK {
			t.Fatalf("Put(%d): %d", x, e)
		}
	}
	return q
}

// upTo are the numbers below n, each times 3.
func upTo(n int) []int {
	l := make([]int, n)
	for i := range l {
		l[i] = 3 * i
	}
	return l
}

func TestP1801New(t *testing.T) {
	for _, room := range append(edges(), 3, 7, 64, 1000) {
		q := New(room)
		if q == nil {
			t.Fatalf("New(%d): nil", room)
		}
		wantNothing(t, fmt.Sprintf("New(%d)", room), q)
		wantRoom(t, q, nearestRoom(room))
	}
	q, other := New(2), New(5)
	wantPut(t, q, 1, api.OK)
	wantNothing(t, "beside another one", other)
	wantPut(t, other, 4, api.OK)
	wantPut(t, other, 1, api.OK)
	wantDrop(t, q, 4, false)
	wantList(t, q, 1)
	wantList(t, other, 4, 1)
	wantRoom(t, q, 2)
	wantRoom(t, other, 5)
}

func TestP1801Put(t *testing.T) {
	q := New(6)
	wantPut(t, q, 7, api.OK)
	wantList(t, q, 7)
	wantPut(t, q, 3, api.OK)
	wantPut(t, q, 9, api.OK)
	wantList(t, q, 7, 3, 9)
	wantPut(t, q, 0, api.OK)
	wantPut(t, q, -3, api.OK)
	wantList(t, q, 7, 3, 9, 0, -3)
	wantDrop(t, q, 7, true)
	wantPut(t, q, 7, api.OK)
	wantList(t, q, 3, 9, 0, -3, 7)
	wantTake(t, q, 3, true)
	wantPut(t, q, 3, api.OK)
	wantList(t, q, 9, 0, -3, 7, 3)
	wide := New(topRoom)
	for _, x := range edges() {
		wantPut(t, wide, x, api.OK)
	}
	wantList(t, wide, edges()...)
}

func TestP1801PutTwice(t *testing.T) {
	q := New(5)
	for _, x := range []int{4, 0, -2, 6} {
		wantPut(t, q, x, api.OK)
	}
	for _, x := range []int{4, 0, -2, 6, 4} {
		wantPut(t, q, x, api.ErrTwice)
		wantList(t, q, 4, 0, -2, 6)
	}
	// It may come again when it is gone, but not ahead of that.
	wantTake(t, q, 4, true)
	wantPut(t, q, 4, api.OK)
	wantPut(t, q, 4, api.ErrTwice)
	wantDrop(t, q, -2, true)
	wantPut(t, q, -2, api.OK)
	wantPut(t, q, -2, api.ErrTwice)
	wantList(t, q, 0, 6, 4, -2)
	for _, x := range edges() {
		one := queueOf(t, 2, 0, x)
		wantPut(t, one, x, api.ErrTwice)
		wantPut(t, one, x+1, api.OK)
		wantList(t, one, x, x+1)
	}
}

// TestP1801PutFull leaves those that are there; that a number is in it is told ahead of that there is no room.
func TestP1801PutFull(t *testing.T) {
	q := queueOf(t, 3, 0, 4, 2, 9)
	for _, x := range []int{5, 0, -4, least, greatest} {
		wantPut(t, q, x, api.ErrFull)
		wantAt(t, q, x, -1)
		wantDrop(t, q, x, false)
		wantList(t, q, 4, 2, 9)
	}
	for _, x := range []int{4, 2, 9} {
		wantPut(t, q, x, api.ErrTwice)
	}
	wantDrop(t, q, 2, true)
	wantPut(t, q, 5, api.OK)
	wantPut(t, q, 2, api.ErrFull)
	wantTake(t, q, 4, true)
	wantPut(t, q, 2, api.OK)
	wantPut(t, q, 4, api.ErrFull)
	wantList(t, q, 9, 5, 2)
	for _, room := range []int{0, -1, -topRoom, least} {
		none := New(room)
		for _, x := range edges() {
			wantPut(t, none, x, api.ErrFull)
		}
		wantNothing(t, "no room", none)
	}
}

// TestP1801RoomIsFilled: as many come in as there is room for, and not one more.
func TestP1801RoomIsFilled(t *testing.T) {
	for _, room := range []int{0, 1, 2, 3, 63, 64, 65, 512, 1000, topRoom - 1, topRoom, topRoom + 1, 5000, 1 << 32, greatest} {
		for _, turns := range []int{0, 1, 700, 1500} {
			if room == 0 {
				turns = 0
			}
			q := queueOf(t, room, turns, upTo(nearestRoom(room))...)
			wantPut(t, q, 1, api.ErrFull)
			wantList(t, q, upTo(nearestRoom(room))...)
			if room > 0 {
				wantPut(t, q, 3*nearestRoom(room)-3, api.ErrTwice)
				wantTake(t, q, 0, true)
				wantPut(t, q, 1, api.OK)
				wantPut(t, q, 0, api.ErrFull)
				wantList(t, q, append(upTo(nearestRoom(room))[1:], 1)...)
			}
		}
	}
}

func TestP1801Room(t *testing.T) {
	for _, room := range []int{1, 2, 3, topRoom} {
		q := New(room)
		wantRoom(t, q, room)
		for n := range room {
			wantPut(t, q, n, api.OK)
			wantRoom(t, q, room)
		}
		wantPut(t, q, -1, api.ErrFull)
		wantPut(t, q, 0, api.ErrTwice)
		wantRoom(t, q, room)
		wantTake(t, q, 0, true)
		wantDrop(t, q, room-1, room > 1)
		wantRoom(t, q, room)
	}
	wantRoom(t, New(0), 0)
	wantRoom(t, New(-1), 0)
	wantRoom(t, New(least), 0)
	wantRoom(t, New(topRoom-1), topRoom-1)
	wantRoom(t, New(topRoom+1), topRoom)
	wantRoom(t, New(1<<32), topRoom)
	wantRoom(t, New(greatest), topRoom)
}

func TestP1802Take(t *testing.T) {
	q := New(4)
	wantTake(t, q, 0, false)
	for _, x := range []int{6, 0, -1, 5} {
		wantPut(t, q, x, api.OK)
	}
	wantTake(t, q, 6, true)
	wantList(t, q, 0, -1, 5)
	wantAt(t, q, 6, -1)
	wantTake(t, q, 0, true)
	wantList(t, q, -1, 5)
	wantPut(t, q, 6, api.OK)
	wantTake(t, q, -1, true)
	wantTake(t, q, 5, true)
	wantList(t, q, 6)
	wantTake(t, q, 6, true)
	wantTake(t, q, 0, false)
	wantNothing(t, "Take of all", q)
	wantPut(t, q, 0, api.OK)
	wantTake(t, q, 0, true)
	wantTake(t, q, 0, false)
}

func TestP1802Drop(t *testing.T) {
	q := New(6)
	wantDrop(t, q, 1, false)
	wantDrop(t, q, 0, false)
	for _, x := range []int{8, 3, 0, 5, -8, 2} {
		wantPut(t, q, x, api.OK)
	}
	for _, x := range []int{7, -3, 1, 6, least, greatest, 1<<32 + 8, topRoom + 8, topRoom} {
		wantDrop(t, q, x, false)
	}
	wantList(t, q, 8, 3, 0, 5, -8, 2)
	wantDrop(t, q, 0, true)
	wantList(t, q, 8, 3, 5, -8, 2)
	wantDrop(t, q, 0, false)
	wantAt(t, q, 0, -1)
	wantDrop(t, q, 8, true)
	wantList(t, q, 3, 5, -8, 2)
	wantDrop(t, q, 2, true)
	wantList(t, q, 3, 5, -8)
	wantPut(t, q, 8, api.OK)
	wantDrop(t, q, 5, true)
	wantList(t, q, 3, -8, 8)
	wantTake(t, q, 3, true)
	wantDrop(t, q, 3, false)
	wantDrop(t, q, 8, true)
	wantDrop(t, q, -8, true)
	wantNothing(t, "Drop of all", q)
	wantPut(t, q, 5, api.OK)
	wantList(t, q, 5)
}

// TestP1802DropAnywhere: wherever the ring's ends lie, each number is dropped from its place, and more come behind the others.
func TestP1802DropAnywhere(t *testing.T) {
	for _, turns := range []int{0, 1, topRoom - 9, topRoom - 5, topRoom - 2, topRoom - 1, topRoom, 2*topRoom - 3} {
		for at := range 8 {
			for other := range 7 {
				q, r := queueOf(t, 9, turns, upTo(8)...), reckon(9)
				r.numbers = upTo(8)
				what := func() string { return fmt.Sprintf("behind %d turns, Drop at %d and %d", turns, at, other) }
				for _, a := range []act{{drop, 3 * at}, {put, 100}, {drop, 3 * other}, {put, 101}, {take, 0}, {put, 102}, {drop, 3 * at}, {put, 3 * at}, {put, 103}} {
					n, ok := a.do(q)
					wantN, wantOK := a.do(r)
					if n != wantN || ok != wantOK {
						t.Fatalf("%s, %s: %d %t, not %d %t", what(), a, n, ok, wantN, wantOK)
					}
					holdAlike(t, what, q, r)
				}
				takeAlike(t, what, q, r)
			}
		}
	}
}

func TestP1803First(t *testing.T) {
	q := New(3)
	wantFirst(t, q, 0, false)
	wantPut(t, q, 5, api.OK)
	wantFirst(t, q, 5, true)
	wantPut(t, q, 9, api.OK)
	wantPut(t, q, 1, api.OK)
	wantFirst(t, q, 5, true)
	// First takes nothing away.
	wantFirst(t, q, 5, true)
	wantList(t, q, 5, 9, 1)
	wantDrop(t, q, 9, true)
	wantFirst(t, q, 5, true)
	wantDrop(t, q, 5, true)
	wantFirst(t, q, 1, true)
	wantPut(t, q, 0, api.OK)
	wantTake(t, q, 1, true)
	wantFirst(t, q, 0, true)
	wantTake(t, q, 0, true)
	wantFirst(t, q, 0, false)
}

func TestP1803At(t *testing.T) {
	q := New(5)
	wantAt(t, q, 0, -1)
	for at, x := range []int{7, 0, -7, 2} {
		wantPut(t, q, x, api.OK)
		wantAt(t, q, x, at)
	}
	wantAt(t, q, 7, 0)
	wantAt(t, q, 0, 1)
	wantAt(t, q, -7, 2)
	wantAt(t, q, 2, 3)
	for _, x := range []int{1, 3, -1, -2, 1 << 32, 1<<32 + 7, topRoom, topRoom + 7, least, greatest} {
		wantAt(t, q, x, -1)
	}
	wantDrop(t, q, -7, true)
	wantAt(t, q, -7, -1)
	wantAt(t, q, 0, 1)
	wantAt(t, q, 2, 2)
	wantTake(t, q, 7, true)
	wantAt(t, q, 7, -1)
	wantAt(t, q, 0, 0)
	wantAt(t, q, 2, 1)
	wantPut(t, q, 7, api.OK)
	wantAt(t, q, 7, 2)
	full := queueOf(t, topRoom, 300, upTo(topRoom)...)
	wantAt(t, full, 3*topRoom-3, topRoom-1)
	wantAt(t, full, 3*topRoom, -1)
	wantAt(t, full, 1, -1)
}

func TestP1803List(t *testing.T) {
	q := New(3)
	wantList(t, q)
	wantPut(t, q, 2, api.OK)
	wantList(t, q, 2)
	wantPut(t, q, 1, api.OK)
	wantPut(t, q, 3, api.OK)
	// List takes nothing away.
	wantList(t, q, 2, 1, 3)
	wantList(t, q, 2, 1, 3)
	wantDrop(t, q, 1, true)
	wantList(t, q, 2, 3)
	wantTake(t, q, 2, true)
	wantList(t, q, 3)
	wantTake(t, q, 3, true)
	wantList(t, q)
}

// TestP1803ListStays: what was handed out stays as it is, whatever the queue goes through, and the queue, whatever is done to it.
func TestP1803ListStays(t *testing.T) {
	q := queueOf(t, 4, 0, 5, 6, 7)
	l, same := q.List(), q.List()
	wantTake(t, q, 5, true)
	wantPut(t, q, 8, api.OK)
	wantDrop(t, q, 7, true)
	wantPut(t, q, 9, api.OK)
	if !slices.Equal(l, []int{5, 6, 7}) {
		t.Errorf("a list that was handed out became %d", l)
	}
	for i := range l {
		l[i] = 77
	}
	if !slices.Equal(same, []int{5, 6, 7}) {
		t.Errorf("two lists share their numbers: %d", same)
	}
	l = q.List()
	l = append(l[:1], 78, 79, 80)
	l[0] = 81
	wantList(t, q, 6, 8, 9)
}

func TestP1803Len(t *testing.T) {
	q := New(topRoom)
	for n := range topRoom {
		if q.Len() != n {
			t.Fatalf("Len: %d, not %d", q.Len(), n)
		}
		q.Put(n)
		q.Put(n)
		q.Put(n / 2)
	}
	if q.Put(-1); q.Len() != topRoom {
		t.Fatalf("Len of a full one: %d", q.Len())
	}
	for n := topRoom; n > 0; n-- {
		if q.Len() != n {
			t.Fatalf("Len: %d, not %d", q.Len(), n)
		}
		if l := q.List(); n%2 == 0 {
			q.Drop(l[n-1])
			q.Drop(l[n-1])
		} else {
			q.Take()
		}
	}
	wantNothing(t, "all gone", q)
}

// stamps tell of each number in a queue when it was put.
type stamps map[int]int

// follow does an act, and asks that who came first is taken first, and that At of a number that waits never rises.
func (s stamps) follow(t *testing.T, when int, q *Queue, a act) {
	t.Helper()
	before := map[int]int{}
	for x := range s {
		before[x] = q.At(x)
	}
	n, ok := a.do(q)
	switch {
	case a.kind == put && n == int(api.OK):
		s[a.x] = when
	case a.kind == drop && ok:
		delete(s, a.x)
	case a.kind == take && ok:
		for x := range s {
			if s[x] < s[n] {
				t.Fatalf("%d is taken, though %d was put ahead of it", n, x)
			}
		}
		delete(s, n)
	}
	if len(s) != q.Len() {
		t.Fatalf("Len behind %s: %d, not %d", a, q.Len(), len(s))
	}
	for x := range s {
		at := q.At(x)
		was, waited := before[x]
		if at < 0 || waited && at > was {
			t.Fatalf("At(%d) behind %s: %d, and it was %d", x, a, at, was)
		}
	}
}

// mixed are so many acts with numbers out of few.
func mixed(seed uint32, length, few int) []act {
	w := seed
	draw := func(n int) int {
		w = w*1664525 + 1013904223
		return int(w>>8) % n
	}
	acts := make([]act, length)
	for i := range acts {
		a := act{put, draw(few) - few/3}
		switch draw(9) {
		case 0, 1:
			a = act{take, 0}
		case 2, 3:
			a.kind = drop
		case 4:
			a.x = edges()[draw(len(edges()))]
		}
		acts[i] = a
	}
	return acts
}

// TestP1804AllLittleRows: all rows of up to five acts with three numbers, at each room up to three.
func TestP1804AllLittleRows(t *testing.T) {
	choice := []act{{take, 0}}
	for _, x := range []int{0, 1, -1} {
		choice = append(choice, act{put, x}, act{drop, x})
	}
	var from func(acts []act)
	from = func(acts []act) {
		for room := range 4 {
			play(t, room, acts)
		}
		if len(acts) == 5 {
			return
		}
		for _, a := range choice {
			from(append(slices.Clone(acts), a))
		}
	}
	from(nil)
}

func TestP1804MixedRows(t *testing.T) {
	for k := range uint32(120) {
		room := int(k * k % 67)
		play(t, room, mixed(k, 600, 5+int(k%50)))
		q, s := New(room), stamps{}
		for i, a := range mixed(k, 300, 5+int(k%50)) {
			s.follow(t, i, q, a)
		}
	}
	// Many more are put than are taken: it is full again and again.
	for _, room := range []int{topRoom - 1, topRoom, topRoom + 1} {
		play(t, room, mixed(uint32(room), 20_000, 3000))
	}
}

// TestP1804FirstComeFirstServed: nothing is dropped, and whatever is put and taken comes in the order in which it was put.
func TestP1804FirstComeFirstServed(t *testing.T) {
	for _, room := range []int{1, 2, 3, 7, 64, 1000, topRoom} {
		q := New(room)
		came, served := 0, 0
		for round := 1; served < 5*topRoom; round++ {
			for range min(round*13%room+1, room-q.Len()) {
				wantPut(t, q, came, api.OK)
				came++
			}
			for range min(round*7%room+1, q.Len()) {
				if at := q.At(came - 1); at != came-1-served {
					t.Fatalf("At(%d) behind %d: %d", came-1, served, at)
				}
				if x, ok := q.Take(); x != served || !ok {
					t.Fatalf("room %d: Take: %d %t, not %d", room, x, ok, served)
				}
				served++
			}
		}
	}
}

func TestNilQueue(t *testing.T) {
	var q *Queue
	for _, x := range edges() {
		wantPut(t, q, x, api.ErrFull)
	}
	wantNothing(t, "nil", q)
	wantRoom(t, q, 0)
	wantList(t, q)
}

func TestExamplesOfTheChapter(t *testing.T) {
	q := New(3)
	wantPut(t, q, 4, api.OK)
	wantPut(t, q, 2, api.OK)
	wantPut(t, q, 9, api.OK)
	wantDrop(t, q, 2, true)
	wantTake(t, q, 4, true)
	wantList(t, q, 9)
}

// actsOfBytes are acts with near numbers, and with edges.
func actsOfBytes(p []byte) []act {
	acts := make([]act, len(p))
	for i, c := range p {
		x := int(c>>2) - 10
		if c>>2 >= 47 {
			x = edges()[int(c>>2)-47]
		}
		acts[i] = []act{{put, x}, {put, x}, {drop, x}, {take, 0}}[c&3]
	}
	return acts
}

func FuzzQueue(f *testing.F) {
	f.Add(3, []byte(""))
	f.Add(3, []byte("four, two, nine"))
	f.Add(-1, []byte{0, 4, 8, 6, 3, 255, 254, 253})
	f.Add(9, []byte{200, 204, 208, 3, 3, 212, 206, 0, 2})
	f.Fuzz(func(t *testing.T, room int, p []byte) {
		acts := actsOfBytes(p)
		play(t, room, acts)
		q, s := New(room), stamps{}
		for i, a := range acts {
			s.follow(t, i, q, a)
		}
	})
}
