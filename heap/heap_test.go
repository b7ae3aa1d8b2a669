package heap

import (
	"fmt"
	"math"
	"slices"
	"testing"
)

const (
	least    = math.MinInt
	greatest = math.MaxInt
)

// entry is a thing by the chapter's words.
type entry struct{ id, key, seq int }

// isAhead asks as the document's words do.
func isAhead(x, y entry) bool {
	if x.key != y.key {
		return x.key > y.key
	}
	if x.seq != y.seq {
		return x.seq < y.seq
	}
	return x.id < y.id
}

// reckoned is a heap by the chapter's words: things in no order, looked through each time.
type reckoned []entry

func (r *reckoned) put(id, key, seq int) bool {
	fresh := !r.drop(id)
	*r = append(*r, entry{id, key, seq})
	return fresh
}

func (r *reckoned) drop(id int) bool {
	before := len(*r)
	*r = slices.DeleteFunc(slices.Clone(*r), func(x entry) bool { return x.id == id })
	return len(*r) < before
}

func (r *reckoned) first() (int, bool) {
	for _, x := range *r {
		if !slices.ContainsFunc(*r, func(y entry) bool { return isAhead(y, x) }) {
			return x.id, true
		}
	}
	return 0, false
}

func (r *reckoned) pop() (int, bool) {
	id, ok := r.first()
	if ok {
		r.drop(id)
	}
	return id, ok
}

func (r *reckoned) has(id int) (int, int, bool) {
	for _, x := range *r {
		if x.id == id {
			return x.key, x.seq, true
		}
	}
	return 0, 0, false
}

// all gives each thing the place of as many as are ahead of it.
func (r *reckoned) all() []int {
	l := make([]int, len(*r))
	for _, x := range *r {
		n := 0
		for _, y := range *r {
			if isAhead(y, x) {
				n++
			}
		}
		l[n] = x.id
	}
	return l
}

// act is something that a heap goes through, and a reckoned one likewise; both tell what they answer.
type act struct {
	what   string
	of     func(h *Heap) (int, bool)
	likely func(r *reckoned) (int, bool)
}

func put(id, key, seq int) act {
	return act{fmt.Sprintf("Put(%d, %d, %d)", id, key, seq),
		func(h *Heap) (int, bool) { return 0, h.Put(id, key, seq) },
		func(r *reckoned) (int, bool) { return 0, r.put(id, key, seq) }}
}

func drop(id int) act {
	return act{fmt.Sprintf("Drop(%d)", id),
		func(h *Heap) (int, bool) { return 0, h.Drop(id) },
		func(r *reckoned) (int, bool) { return 0, r.drop(id) }}
}

func pop() act {
	return act{"Pop",
		func(h *Heap) (int, bool) { return h.Pop() },
		func(r *reckoned) (int, bool) { return r.pop() }}
}

// play does the acts with a heap and a reckoned one, and asks that each act is answered alike.
func play(t *testing.T, acts ...act) (*Heap, *reckoned) {
	t.Helper()
	h, r := New(), &reckoned{}
	for i, a := range acts {
		id, ok := a.of(h)
		wantID, wantOK := a.likely(r)
		if id != wantID || ok != wantOK {
			t.Fatalf("%s: %d %t, not %d %t", row(acts[:i+1]), id, ok, wantID, wantOK)
		}
	}
	return h, r
}

func row(acts []act) string {
	s := "New"
	for _, a := range acts {
		s += ", " + a.what
	}
	return s
}

// holdAlike asks for all that is in them, without a change.
func holdAlike(t *testing.T, what string, h *Heap, r *reckoned) {
	t.Helper()
	id, ok := h.First()
	wantID, wantOK := r.first()
	if id != wantID || ok != wantOK {
		t.Fatalf("%s: First: %d %t, not %d %t", what, id, ok, wantID, wantOK)
	}
	if h.Len() != len(*r) {
		t.Fatalf("%s: Len: %d, not %d", what, h.Len(), len(*r))
	}
	if l := h.All(); !slices.Equal(l, r.all()) {
		t.Fatalf("%s: All: %d, not %d", what, l, r.all())
	}
	for _, x := range *r {
		wantHas(t, what, h, x.id, x.key, x.seq, true)
	}
}

// popAlike pops till nothing is left: whatever the heap is like inside, all must come in their order.
func popAlike(t *testing.T, what string, h *Heap, r *reckoned) {
	t.Helper()
	for _, want := range r.all() {
		if id, ok := h.Pop(); id != want || !ok {
			t.Fatalf("%s: Pop: %d %t, not %d", what, id, ok, want)
		}
	}
	wantNothing(t, what+", and all popped", h)
}

func wantHas(t *testing.T, what string, h *Heap, id, key, seq int, ok bool) {
	t.Helper()
	if k, s, y := h.Has(id); k != key || s != seq || y != ok {
		t.Fatalf("%s: Has(%d): %d %d %t, not %d %d %t", what, id, k, s, y, key, seq, ok)
	}
}

func wantFirst(t *testing.T, h *Heap, id int, ok bool) {
	t.Helper()
	if x, y := h.First(); x != id || y != ok {
		t.Errorf("First: %d %t, not %d %t", x, y, id, ok)
	}
}

func wantAll(t *testing.T, h *Heap, ids ...int) {
	t.Helper()
	if l := h.All(); !slices.Equal(l, ids) {
		t.Errorf("All: %d, not %d", l, ids)
	}
}

func wantBool(t *testing.T, what string, got, want bool) {
	t.Helper()
	if got != want {
		t.Errorf("%s: %t, not %t", what, got, want)
	}
}

// wantNothing asks such ids too as nothing might be mistaken for.
func wantNothing(t *testing.T, what string, h *Heap) {
	t.Helper()
	if x, ok := h.First(); x != 0 || ok {
		t.Fatalf("%s: First: %d %t", what, x, ok)
	}
	if x, ok := h.Pop(); x != 0 || ok {
		t.Fatalf("%s: Pop: %d %t", what, x, ok)
	}
	if h.Len() != 0 || len(h.All()) != 0 {
		t.Fatalf("%s: Len: %d, All: %d", what, h.Len(), h.All())
	}
	for _, id := range []int{least, -1, 0, 1, 2, 7, greatest} {
		wantHas(t, what, h, id, 0, 0, false)
		if h.Drop(id) {
			t.Fatalf("%s: Drop(%d): true", what, id)
		}
	}
}

// edges are numbers whose differences leave an int, and such as an int of fewer bits takes for one another.
func edges() []int {
	return []int{least, least + 1, -1 << 32, -2, -1, 0, 1, 2, 1 << 31, 1 << 32, 1<<32 + 1, greatest - 1, greatest}
}

// ordersOf tells each order in which the numbers below n may come.
func ordersOf(n int, tell func(l []int)) {
	l := make([]int, n)
	for i := range l {
		l[i] = i
	}
	var from func(k int)
	from = func(k int) {
		if k == n {
			tell(l)
			return
		}
		for i := k; i < n; i++ {
			l[k], l[i] = l[i], l[k]
			from(k + 1)
			l[k], l[i] = l[i], l[k]
		}
	}
	from(0)
}

func TestP1301New(t *testing.T) {
	wantNothing(t, "New", New())
	h, other := New(), New()
	h.Put(1, 2, 3)
	wantNothing(t, "beside another one", other)
	other.Put(4, 5, 6)
	wantAll(t, h, 1)
	wantAll(t, other, 4)
	wantBool(t, "Drop of the other one's", h.Drop(4), false)
}

func TestP1301Put(t *testing.T) {
	h := New()
	wantBool(t, "Put", h.Put(7, 5, 2), true)
	wantHas(t, "Put", h, 7, 5, 2, true)
	wantBool(t, "Put of the same", h.Put(7, 5, 2), false)
	wantHas(t, "Put of the same", h, 7, 5, 2, true)
	wantBool(t, "Put of another key", h.Put(7, 6, 2), false)
	wantHas(t, "Put of another key", h, 7, 6, 2, true)
	wantBool(t, "Put of another seq", h.Put(7, 6, -9), false)
	wantHas(t, "Put of another seq", h, 7, 6, -9, true)
	wantBool(t, "Put of zeros", h.Put(7, 0, 0), false)
	wantHas(t, "Put of zeros", h, 7, 0, 0, true)
	wantBool(t, "Put of the thing 0", h.Put(0, 0, 0), true)
	wantHas(t, "Put of the thing 0", h, 0, 0, 0, true)
	wantBool(t, "Put of the same, which is alike", h.Put(0, 0, 0), false)
	wantBool(t, "Put of an id below 0", h.Put(-7, 0, 0), true)
	wantAll(t, h, -7, 0, 7)
	wantBool(t, "Put of what was dropped", h.Drop(7) && h.Put(7, 1, 1), true)
	if id, ok := h.Pop(); id != 7 || !ok {
		t.Errorf("Pop: %d %t, not 7", id, ok)
	}
	wantBool(t, "Put of what was popped", h.Put(7, 2, 2), true)
	wantHas(t, "Put of what was popped", h, 7, 2, 2, true)
	wantAll(t, h, 7, -7, 0)
}

// TestP1301PutBringsUpAndDown: what is there already comes to where it belongs now.
func TestP1301PutBringsUpAndDown(t *testing.T) {
	h := New()
	for id := range 7 {
		h.Put(id, 10*id, 0)
	}
	wantAll(t, h, 6, 5, 4, 3, 2, 1, 0)
	h.Put(0, 99, 0)
	wantFirst(t, h, 0, true)
	wantAll(t, h, 0, 6, 5, 4, 3, 2, 1)
	h.Put(6, -1, 0)
	wantAll(t, h, 0, 5, 4, 3, 2, 1, 6)
	h.Put(0, 5, 0)
	wantFirst(t, h, 5, true)
	wantAll(t, h, 5, 4, 3, 2, 1, 0, 6)
	h.Put(3, 20, 1)
	h.Put(1, 20, -1)
	wantAll(t, h, 5, 4, 1, 2, 3, 0, 6)
	if h.Len() != 7 {
		t.Errorf("Len: %d, not 7", h.Len())
	}
}

func TestP1301Drop(t *testing.T) {
	h := New()
	wantBool(t, "Drop of none", h.Drop(1), false)
	for id := 1; id <= 5; id++ {
		h.Put(id, 5, id)
	}
	wantBool(t, "Drop of another id", h.Drop(6), false)
	wantBool(t, "Drop of 0", h.Drop(0), false)
	wantBool(t, "Drop of a key", h.Drop(-5), false)
	wantAll(t, h, 1, 2, 3, 4, 5)
	wantBool(t, "Drop of the last", h.Drop(5), true)
	wantBool(t, "Drop of it again", h.Drop(5), false)
	wantHas(t, "Drop of the last", h, 5, 0, 0, false)
	wantAll(t, h, 1, 2, 3, 4)
	wantBool(t, "Drop of the first", h.Drop(1), true)
	wantBool(t, "Drop of it again", h.Drop(1), false)
	wantFirst(t, h, 2, true)
	wantBool(t, "Drop between", h.Drop(3), true)
	wantAll(t, h, 2, 4)
	wantBool(t, "Drop", h.Drop(2) && h.Drop(4), true)
	wantNothing(t, "Drop of all", h)
	wantBool(t, "Put of what was dropped", h.Put(3, 1, 1), true)
	wantAll(t, h, 3)
}

func TestP1302First(t *testing.T) {
	h := New()
	wantFirst(t, h, 0, false)
	h.Put(0, 0, 0)
	wantFirst(t, h, 0, true)
	h.Put(-3, 0, 0)
	wantFirst(t, h, -3, true)
	h.Put(9, 0, -1)
	wantFirst(t, h, 9, true)
	h.Put(8, 1, 100)
	wantFirst(t, h, 8, true)
	// First takes nothing away.
	wantFirst(t, h, 8, true)
	wantAll(t, h, 8, 9, -3, 0)
}

func TestP1302Pop(t *testing.T) {
	h := New()
	for _, id := range []int{3, 0, 1, 2} {
		h.Put(id, id%2, id)
	}
	left := 4
	for _, want := range []int{1, 3, 0, 2} {
		left--
		if id, ok := h.Pop(); id != want || !ok {
			t.Errorf("Pop: %d %t, not %d", id, ok, want)
		}
		wantHas(t, "Pop", h, want, 0, 0, false)
		if h.Len() != left {
			t.Errorf("Len behind Pop: %d, not %d", h.Len(), left)
		}
	}
	wantNothing(t, "Pop of all", h)
}

func TestP1302Has(t *testing.T) {
	h := New()
	wantHas(t, "New", h, 0, 0, 0, false)
	h.Put(2, 3, 4)
	h.Put(3, 4, 2)
	h.Put(4, 0, 0)
	wantHas(t, "Put", h, 2, 3, 4, true)
	wantHas(t, "Put", h, 3, 4, 2, true)
	wantHas(t, "Put", h, 4, 0, 0, true)
	wantHas(t, "Put", h, 0, 0, 0, false)
	wantHas(t, "Put", h, 5, 0, 0, false)
	wantHas(t, "Put", h, -2, 0, 0, false)
	for _, n := range edges() {
		h.Put(n, n, n)
		wantHas(t, "Put", h, n, n, n, true)
		h.Put(n, ^n, n)
		wantHas(t, "Put", h, n, ^n, n, true)
	}
}

func TestP1302Len(t *testing.T) {
	h := New()
	for n := range 40 {
		if h.Len() != n {
			t.Errorf("Len: %d, not %d", h.Len(), n)
		}
		h.Put(n, n*7%5, n)
		h.Put(n, n*3%5, n)
	}
	for n := 40; n > 0; n-- {
		if h.Len() != n {
			t.Errorf("Len: %d, not %d", h.Len(), n)
		}
		h.Drop(n - 1)
		h.Drop(n - 1)
	}
	wantNothing(t, "Drop of all", h)
}

func TestP1302All(t *testing.T) {
	h := New()
	wantAll(t, h)
	h.Put(1, 5, 2)
	wantAll(t, h, 1)
	h.Put(2, 5, 1)
	h.Put(3, 4, 0)
	wantAll(t, h, 2, 1, 3)
	// All takes nothing away.
	wantAll(t, h, 2, 1, 3)
	wantFirst(t, h, 2, true)
	// A greater key is ahead even of a lesser seq and id, and a lesser seq of a lesser id.
	h.Put(9, 6, 9)
	h.Put(8, 5, 0)
	h.Put(0, 5, 1)
	wantAll(t, h, 9, 8, 0, 2, 1, 3)
}

// TestP1302AheadAtBothEnds: two things, and three, whose numbers lie at both ends of an int.
func TestP1302AheadAtBothEnds(t *testing.T) {
	for _, a := range edges() {
		for _, b := range edges() {
			for _, acts := range [][]act{
				{put(1, a, 0), put(2, b, 0)},
				{put(1, 0, a), put(2, 0, b)},
				{put(a, 0, 0), put(b, 0, 0)},
				{put(1, a, b), put(2, b, a)},
				{put(a, b, 0), put(b, a, 0)},
				{put(a, 0, b), put(b, 0, a)},
				{put(1, a, 0), put(3, 0, 0), put(2, b, 0)},
				{put(1, 0, a), put(3, 0, 0), put(2, 0, b)},
				{put(a, 0, 0), put(3, 0, 0), put(b, 0, 0)},
			} {
				h, r := play(t, acts...)
				holdAlike(t, row(acts), h, r)
				popAlike(t, row(acts), h, r)
			}
		}
	}
}

// TestP1303OrdersOfPut: however things come, they are popped in their order.
func TestP1303OrdersOfPut(t *testing.T) {
	for n := range 8 {
		ordersOf(n, func(l []int) {
			h, r := New(), &reckoned{}
			for _, id := range l {
				h.Put(id, id/3, -id%2)
				r.put(id, id/3, -id%2)
			}
			what := fmt.Sprintf("Put of %d", l)
			holdAlike(t, what, h, r)
			popAlike(t, what, h, r)
		})
	}
}

// TestP1303OrdersOfPutAndAChange: whichever one is dropped, or changed, behind whatever order, the others are popped in theirs.
func TestP1303OrdersOfPutAndAChange(t *testing.T) {
	for n := range 8 {
		ordersOf(n, func(l []int) {
			for id := range n {
				for key := -1; key <= 2*n+1; key += 2 {
					h, r := New(), &reckoned{}
					for _, x := range l {
						h.Put(x, 2*x, 0)
						r.put(x, 2*x, 0)
					}
					what := fmt.Sprintf("Put of %d, and %d changed to %d", l, id, key)
					if key < 0 {
						wantBool(t, what, h.Drop(id), r.drop(id))
					} else {
						wantBool(t, what, h.Put(id, key, 0), r.put(id, key, 0))
					}
					popAlike(t, what, h, r)
				}
			}
		})
	}
}

// TestP1303Drops: the last thing of a heap comes to where another one was dropped, and may belong above that, or below.
func TestP1303Drops(t *testing.T) {
	for n := range 40 {
		for step := 1; step < 80; step += 3 {
			for id := range n {
				h, r := New(), &reckoned{}
				for i := range n {
					h.Put(i, i*step%41, 0)
					r.put(i, i*step%41, 0)
				}
				what := fmt.Sprintf("Drop of %d of %d, by %d", id, n, step)
				wantBool(t, what, h.Drop(id), r.drop(id))
				popAlike(t, what, h, r)
			}
		}
	}
}

// TestP1303RowsOfActs goes through all rows of a few acts.
func TestP1303RowsOfActs(t *testing.T) {
	few := []act{put(0, 1, 1), put(1, 1, 1), put(2, 1, 0), put(1, 2, 0), put(0, 0, 0), drop(0), drop(1), drop(2), pop()}
	n := len(few)
	for number := range n * n * n * n * n {
		var acts []act
		for range 5 {
			acts = append(acts, few[number%n])
			number /= n
		}
		h, r := play(t, acts...)
		holdAlike(t, row(acts), h, r)
		popAlike(t, row(acts), h, r)
	}
}

// anyAct is what a few bits tell.
func anyAct(w uint32) act {
	id, key, seq := int(w>>8&31)-3, int(w>>16&7)-2, int(w>>24&3)-1
	switch w & 7 {
	case 0:
		return pop()
	case 1, 2:
		return drop(id)
	}
	return put(id, key, seq)
}

func TestP1303LongRowsOfActs(t *testing.T) {
	for seed := range uint32(60) {
		var acts []act
		w := seed
		for range 200 {
			w = w*1664525 + 1013904223
			acts = append(acts, anyAct(w>>13^w))
		}
		h, r := New(), &reckoned{}
		for _, a := range acts {
			id, ok := a.of(h)
			wantID, wantOK := a.likely(r)
			if id != wantID || ok != wantOK {
				t.Fatalf("%s, from the seed %d: %d %t, not %d %t", a.what, seed, id, ok, wantID, wantOK)
			}
			holdAlike(t, a.what, h, r)
			for id := -4; id < 30; id++ {
				key, seq, ok := r.has(id)
				wantHas(t, a.what, h, id, key, seq, ok)
			}
		}
		popAlike(t, fmt.Sprintf("a long row from the seed %d", seed), h, r)
	}
}

func TestP1303ManyThings(t *testing.T) {
	const many = 100_003
	h := New()
	for i := range many {
		h.Put(i, i*7919%many, 0)
	}
	for i := range many {
		// Many are changed, and these then have the keys that others had.
		if i%3 == 0 {
			h.Put(i, many-1-i*7919%many, i%5)
		} else if i%7 == 0 {
			h.Drop(i)
		}
	}
	l := h.All()
	if len(l) != h.Len() {
		t.Fatalf("All: %d things, but Len %d", len(l), h.Len())
	}
	last := entry{least, greatest, least}
	for _, want := range l {
		key, seq, ok := h.Has(want)
		x := entry{want, key, seq}
		if id, y := h.Pop(); !ok || !y || id != want {
			t.Fatalf("Pop: %d %t, not %d", id, y, want)
		}
		if !isAhead(last, x) {
			t.Fatalf("%v came behind %v", x, last)
		}
		last = x
	}
	wantNothing(t, "all popped", h)
}

// TestWhatAllToldStays: what becomes of the heap later is nothing to it.
func TestWhatAllToldStays(t *testing.T) {
	h := New()
	for id := range 9 {
		h.Put(id, id%4, 0)
	}
	l := h.All()
	told := slices.Clone(l)
	h.Put(0, 100, 0)
	h.Put(50, 50, 0)
	h.Drop(3)
	h.All()
	h.Pop()
	if !slices.Equal(l, told) {
		t.Errorf("All told %d, and that became %d", told, l)
	}
}

func TestNilHeap(t *testing.T) {
	var h *Heap
	wantNothing(t, "nil", h)
	for _, n := range edges() {
		wantBool(t, "Put into nil", h.Put(n, n, n), false)
		wantBool(t, "Put into nil again", h.Put(n, n, n), false)
		wantHas(t, "Put into nil", h, n, 0, 0, false)
		wantBool(t, "Drop from nil", h.Drop(n), false)
	}
	wantNothing(t, "nil", h)
}

func TestExamplesOfTheChapter(t *testing.T) {
	h := New()
	h.Put(1, 5, 2)
	h.Put(2, 5, 1)
	h.Put(3, 4, 0)
	wantAll(t, h, 2, 1, 3)
}

func FuzzHeap(f *testing.F) {
	f.Add([]byte{3, 4, 2, 0, 3, 5, 2, 1, 3, 6, 7, 2, 0, 0, 0, 0, 1, 5, 0, 0})
	f.Fuzz(func(t *testing.T, b []byte) {
		var acts []act
		for i := 0; i+3 < len(b) && i < 400; i += 4 {
			acts = append(acts, anyAct(uint32(b[i])|uint32(b[i+1])<<8|uint32(b[i+2])<<16|uint32(b[i+3])<<24))
		}
		h, r := play(t, acts...)
		holdAlike(t, row(acts), h, r)
		popAlike(t, row(acts), h, r)
	})
}

func FuzzThreeThings(f *testing.F) {
	f.Add(1, 5, 2, 2, 5, 1, 3, 4, 0)
	f.Add(least, least, least, greatest, greatest, greatest, 0, 0, 0)
	f.Fuzz(func(t *testing.T, a, b, c, d, e, g, x, y, z int) {
		acts := []act{put(a, b, c), put(d, e, g), put(x, y, z)}
		h, r := play(t, acts...)
		holdAlike(t, row(acts), h, r)
		popAlike(t, row(acts), h, r)
	})
}
