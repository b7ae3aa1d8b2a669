package lock

import (
	"fmt"
	"math"
	"reflect"
	"slices"
	"strings"
	"testing"

	"tallyman/api"
)

const (
	least    = math.MinInt
	greatest = math.MaxInt
	// This stands here by the chapter's digits.
	topWait = 64
)

// noTokens are numbers below 1, some of which an int of fewer bits takes for a token.
func noTokens() []int {
	return []int{0, -1, -2, -5, -topWait, -1 << 32, -1<<32 + 5, least + 5, least + 1, least}
}

// tokenEdges are such as an int of fewer bits takes for one another, or for no token.
func tokenEdges() []int {
	return []int{1, 2, topWait, topWait + 1, 1<<31 - 1, 1 << 31, 1 << 32, 1<<32 + 1, greatest - 1, greatest}
}

// asked is a lock, be it this package's or a reckoned one.
type asked interface {
	Ask(token int) api.Errno
	Grant() (int, bool)
	Leave(token int) int
	Head() (int, bool)
	View() api.Lock
}

// reckoned is a lock by the chapter's words: what it shows is all that it has.
type reckoned struct{ api.Lock }

func reckon(id int) *reckoned { return &reckoned{api.Lock{ID: id}} }

func (r *reckoned) Ask(token int) api.Errno {
	if token < 1 {
		return api.ErrArg
	}
	if token == r.Holder || slices.Contains(r.Wait, token) {
		return api.ErrTwice
	}
	if len(r.Wait) == topWait {
		return api.ErrFull
	}
	r.Wait = append(slices.Clone(r.Wait), token)
	return api.OK
}

func (r *reckoned) Grant() (int, bool) {
	if r.Holder != 0 || len(r.Wait) == 0 {
		return 0, false
	}
	r.Holder, r.Wait = r.Wait[0], r.Wait[1:]
	return r.Holder, true
}

func (r *reckoned) Leave(token int) int {
	if r.Holder != 0 && r.Holder == token {
		r.Holder = 0
		return 2
	}
	at := slices.Index(r.Wait, token)
	if at < 0 {
		return 0
	}
	r.Wait = slices.Concat(r.Wait[:at], r.Wait[at+1:])
	return 1
}

func (r *reckoned) Head() (int, bool) {
	if len(r.Wait) == 0 {
		return 0, false
	}
	return r.Wait[0], true
}

func (r *reckoned) View() api.Lock { return r.Lock }

// act is something that a lock goes through.
type act struct {
	kind  kind
	token int
}

type kind int

const (
	ask kind = iota
	grant
	leave
)

// do tells what was answered.
func (a act) do(l asked) (int, bool) {
	switch a.kind {
	case ask:
		return int(l.Ask(a.token)), false
	case grant:
		return l.Grant()
	}
	return l.Leave(a.token), false
}

func (a act) String() string {
	switch a.kind {
	case ask:
		return fmt.Sprintf("Ask(%d)", a.token)
	case grant:
		return "Grant"
	}
	return fmt.Sprintf("Leave(%d)", a.token)
}

func row(id int, acts []act) string {
	var b strings.Builder
	fmt.Fprintf(&b, "New(%d)", id)
	for _, a := range acts {
		b.WriteString(", " + a.String())
	}
	return b.String()
}

// play does the acts with a lock and a reckoned one, and asks that each act is answered alike, and that they hold alike behind each.
func play(t *testing.T, id int, acts []act) {
	t.Helper()
	l, r := New(id), reckon(id)
	for i, a := range acts {
		n, ok := a.do(l)
		wantN, wantOK := a.do(r)
		if n != wantN || ok != wantOK {
			t.Fatalf("%s: %d %t, not %d %t", row(id, acts[:i+1]), n, ok, wantN, wantOK)
		}
		holdAlike(t, func() string { return row(id, acts[:i+1]) }, l, r)
	}
}

// holdAlike asks for all that is in them, without a change; what happened is spelt out only where they differ.
func holdAlike(t *testing.T, what func() string, l *Lock, r *reckoned) {
	t.Helper()
	if v := l.View(); !same(v, r.Lock) {
		t.Fatalf("%s: View: %v, not %v", what(), v, r.Lock)
	}
	token, ok := l.Head()
	wantToken, wantOK := r.Head()
	if token != wantToken || ok != wantOK {
		t.Fatalf("%s: Head: %d %t, not %d %t", what(), token, ok, wantToken, wantOK)
	}
}

// same takes no list for an empty one.
func same(a, b api.Lock) bool {
	return a.ID == b.ID && a.Holder == b.Holder && slices.Equal(a.Wait, b.Wait)
}

func wantAsk(t *testing.T, l *Lock, token int, want api.Errno) {
	t.Helper()
	if got := l.Ask(token); got != want {
		t.Errorf("Ask(%d): %d, not %d", token, got, want)
	}
}

func wantGrant(t *testing.T, l *Lock, want int, is bool) {
	t.Helper()
	if token, ok := l.Grant(); token != want || ok != is {
		t.Errorf("Grant: %d %t, not %d %t", token, ok, want, is)
	}
}

func wantLeave(t *testing.T, l *Lock, token, want int) {
	t.Helper()
	if got := l.Leave(token); got != want {
		t.Errorf("Leave(%d): %d, not %d", token, got, want)
	}
}

func wantHead(t *testing.T, l *Lock, want int, is bool) {
	t.Helper()
	if token, ok := l.Head(); token != want || ok != is {
		t.Errorf("Head: %d %t, not %d %t", token, ok, want, is)
	}
}

// wantView asks for Head too.
func wantView(t *testing.T, l *Lock, id, holder int, wait ...int) {
	t.Helper()
	if v, want := l.View(), (api.Lock{ID: id, Holder: holder, Wait: wait}); !same(v, want) {
		t.Errorf("View: %v, not %v", v, want)
	}
	if len(wait) > 0 {
		wantHead(t, l, wait[0], true)
	} else {
		wantHead(t, l, 0, false)
	}
}

// lockOf is held by that token, or free, and those wait for it.
func lockOf(t *testing.T, id, holder int, wait ...int) *Lock {
	t.Helper()
	l := New(id)
	if holder != 0 {
		wantAsk(t, l, holder, api.OK)
		wantGrant(t, l, holder, true)
	}
	for _, token := range wait {
		wantAsk(t, l, token, api.OK)
	}
	return l
}

// rising are so many tokens, from first on, each 3 above the one ahead.
func rising(first, n int) []int {
	tokens := make([]int, n)
	for i := range tokens {
		tokens[i] = first + 3*i
	}
	return tokens
}

func TestP1901New(t *testing.T) {
	for _, id := range append(noTokens(), tokenEdges()...) {
		l := New(id)
		if l == nil {
			t.Fatalf("New(%d): nil", id)
		}
		wantView(t, l, id, 0)
		wantGrant(t, l, 0, false)
		wantView(t, l, id, 0)
	}
	l, other := New(4), New(4)
	wantAsk(t, l, 5, api.OK)
	wantView(t, other, 4, 0)
	wantLeave(t, other, 5, 0)
	wantAsk(t, other, 6, api.OK)
	wantAsk(t, other, 5, api.OK)
	wantGrant(t, l, 5, true)
	wantView(t, l, 4, 5)
	wantView(t, other, 4, 0, 6, 5)
}

func TestP1901Ask(t *testing.T) {
	l := New(3)
	// Who asks for a free lock waits too.
	wantAsk(t, l, 5, api.OK)
	wantView(t, l, 3, 0, 5)
	wantAsk(t, l, 9, api.OK)
	wantAsk(t, l, 1, api.OK)
	wantView(t, l, 3, 0, 5, 9, 1)
	wantGrant(t, l, 5, true)
	wantAsk(t, l, 7, api.OK)
	wantView(t, l, 3, 5, 9, 1, 7)
	wantLeave(t, l, 9, 1)
	wantAsk(t, l, 9, api.OK)
	wantView(t, l, 3, 5, 1, 7, 9)
	wantLeave(t, l, 5, 2)
	wantAsk(t, l, 5, api.OK)
	wantView(t, l, 3, 0, 1, 7, 9, 5)
	wide := New(3)
	for _, token := range tokenEdges() {
		wantAsk(t, wide, token, api.OK)
	}
	wantView(t, wide, 3, 0, tokenEdges()...)
}

// TestP1901AskArg: what is no token is told ahead of that there is no room, whether the lock is free or not.
func TestP1901AskArg(t *testing.T) {
	full := rising(10, topWait)
	for _, token := range noTokens() {
		l := New(3)
		wantAsk(t, l, token, api.ErrArg)
		wantView(t, l, 3, 0)
		l = lockOf(t, 3, 5, 8)
		wantAsk(t, l, token, api.ErrArg)
		wantView(t, l, 3, 5, 8)
		l = lockOf(t, 3, 0, full...)
		wantAsk(t, l, token, api.ErrArg)
		wantView(t, l, 3, 0, full...)
		l = lockOf(t, 3, 5, full...)
		wantAsk(t, l, token, api.ErrArg)
		wantView(t, l, 3, 5, full...)
	}
}

func TestP1901AskTwice(t *testing.T) {
	l := lockOf(t, 3, 5, 8, 2, 6)
	for _, token := range []int{5, 8, 2, 6, 5} {
		wantAsk(t, l, token, api.ErrTwice)
		wantView(t, l, 3, 5, 8, 2, 6)
	}
	wantLeave(t, l, 5, 2)
	for _, token := range []int{8, 2, 6} {
		wantAsk(t, l, token, api.ErrTwice)
		wantView(t, l, 3, 0, 8, 2, 6)
	}
	wantGrant(t, l, 8, true)
	wantAsk(t, l, 8, api.ErrTwice)
	wantView(t, l, 3, 8, 2, 6)
	for _, token := range tokenEdges() {
		held := lockOf(t, token, token)
		wantAsk(t, held, token, api.ErrTwice)
		wantView(t, held, token, token)
		waits := lockOf(t, token, 0, token)
		wantAsk(t, waits, token, api.ErrTwice)
		wantView(t, waits, token, 0, token)
	}
}

// TestP1901AskFull: 64 may wait, be the lock held or free; that a token is the holder, or waits, is told ahead of it.
func TestP1901AskFull(t *testing.T) {
	wait := rising(10, topWait)
	for _, holder := range []int{0, 5} {
		l := lockOf(t, 3, holder, wait...)
		for _, token := range []int{1, 6, 11, 10 + 3*topWait, 1<<32 + 10, greatest} {
			wantAsk(t, l, token, api.ErrFull)
			wantLeave(t, l, token, 0)
			wantView(t, l, 3, holder, wait...)
		}
		for _, token := range wait {
			wantAsk(t, l, token, api.ErrTwice)
		}
		if holder != 0 {
			wantAsk(t, l, holder, api.ErrTwice)
			// That the holder goes makes no room among those that wait.
			wantLeave(t, l, holder, 2)
			wantAsk(t, l, holder, api.ErrFull)
		}
		wantView(t, l, 3, 0, wait...)
		wantGrant(t, l, 10, true)
		wantAsk(t, l, 1, api.OK)
		wantAsk(t, l, 2, api.ErrFull)
		wantLeave(t, l, 16, 1)
		wantAsk(t, l, 2, api.OK)
		wantAsk(t, l, 16, api.ErrFull)
		wantView(t, l, 3, 10, slices.Concat([]int{13}, rising(19, topWait-3), []int{1, 2})...)
	}
	for n := range topWait {
		l := lockOf(t, 3, 5, rising(10, n)...)
		wantAsk(t, l, 6, api.OK)
		wantView(t, l, 3, 5, append(rising(10, n), 6)...)
	}
}

func TestP1902Grant(t *testing.T) {
	l := New(3)
	wantGrant(t, l, 0, false)
	wantView(t, l, 3, 0)
	for _, token := range []int{6, 9, 2} {
		wantAsk(t, l, token, api.OK)
	}
	wantGrant(t, l, 6, true)
	wantView(t, l, 3, 6, 9, 2)
	// It is not free.
	wantGrant(t, l, 0, false)
	wantView(t, l, 3, 6, 9, 2)
	wantLeave(t, l, 6, 2)
	wantGrant(t, l, 9, true)
	wantView(t, l, 3, 9, 2)
	wantLeave(t, l, 2, 1)
	wantGrant(t, l, 0, false)
	wantView(t, l, 3, 9)
	wantLeave(t, l, 9, 2)
	// It is free, but nobody waits.
	wantGrant(t, l, 0, false)
	wantView(t, l, 3, 0)
	wantAsk(t, l, 6, api.OK)
	wantGrant(t, l, 6, true)
	wantView(t, l, 3, 6)
	for _, token := range tokenEdges() {
		wantGrant(t, lockOf(t, 3, 0, token), token, true)
	}
}

func TestP1902Leave(t *testing.T) {
	l := lockOf(t, 3, 5, 8, 2, 6)
	wantLeave(t, l, 2, 1)
	wantView(t, l, 3, 5, 8, 6)
	wantLeave(t, l, 2, 0)
	wantLeave(t, l, 8, 1)
	wantView(t, l, 3, 5, 6)
	// Nobody comes to hold by that somebody leaves.
	wantLeave(t, l, 5, 2)
	wantView(t, l, 3, 0, 6)
	wantLeave(t, l, 5, 0)
	wantLeave(t, l, 6, 1)
	wantView(t, l, 3, 0)
	wantLeave(t, l, 6, 0)
	for _, token := range tokenEdges() {
		wantLeave(t, lockOf(t, 3, token, 3, 4), token, 2)
		wantLeave(t, lockOf(t, 3, 3, 4, token), token, 1)
	}
}

// TestP1902LeaveNeither: who is not there does not leave; least of all 0, whether it stands for nobody or not.
func TestP1902LeaveNeither(t *testing.T) {
	strangers := slices.Concat(noTokens(), tokenEdges())
	for _, token := range strangers {
		l := New(3)
		wantLeave(t, l, token, 0)
		wantView(t, l, 3, 0)
		l = lockOf(t, 3, 5)
		wantLeave(t, l, token, 0)
		wantView(t, l, 3, 5)
		l = lockOf(t, 3, 0, 7, 5)
		wantLeave(t, l, token, 0)
		wantView(t, l, 3, 0, 7, 5)
		l = lockOf(t, 3, 7, 6, 5)
		wantLeave(t, l, token, 0)
		wantView(t, l, 3, 7, 6, 5)
	}
}

// TestP1902LeaveAnywhere: wherever a token waits, the others stay in their order.
func TestP1902LeaveAnywhere(t *testing.T) {
	for at := range topWait {
		wait := rising(10, topWait)
		l := lockOf(t, 3, 5, wait...)
		wantLeave(t, l, wait[at], 1)
		wait = slices.Delete(wait, at, at+1)
		wantView(t, l, 3, 5, wait...)
		wantLeave(t, l, 5, 2)
		for _, token := range wait {
			wantGrant(t, l, token, true)
			wantLeave(t, l, token, 2)
		}
		wantGrant(t, l, 0, false)
		wantView(t, l, 3, 0)
	}
}

func TestP1902Head(t *testing.T) {
	l := New(3)
	wantHead(t, l, 0, false)
	wantAsk(t, l, 7, api.OK)
	wantHead(t, l, 7, true)
	wantAsk(t, l, 4, api.OK)
	wantHead(t, l, 7, true)
	// Head takes nobody away.
	wantHead(t, l, 7, true)
	wantView(t, l, 3, 0, 7, 4)
	// Who holds waits no more.
	wantGrant(t, l, 7, true)
	wantHead(t, l, 4, true)
	wantAsk(t, l, 9, api.OK)
	wantLeave(t, l, 4, 1)
	wantHead(t, l, 9, true)
	wantLeave(t, l, 7, 2)
	wantHead(t, l, 9, true)
	wantGrant(t, l, 9, true)
	wantHead(t, l, 0, false)
}

func TestP1903View(t *testing.T) {
	for _, id := range append(noTokens(), tokenEdges()...) {
		wantView(t, lockOf(t, id, 0), id, 0)
		wantView(t, lockOf(t, id, 4), id, 4)
		wantView(t, lockOf(t, id, 0, 4), id, 0, 4)
		wantView(t, lockOf(t, id, 4, 9, 3, 6), id, 4, 9, 3, 6)
		wantView(t, lockOf(t, id, 0, tokenEdges()...), id, 0, tokenEdges()...)
	}
	for n := range topWait + 1 {
		wait := rising(20, n)
		slices.Reverse(wait)
		wantView(t, lockOf(t, 3, 8, wait...), 3, 8, wait...)
	}
}

// TestP1903ViewStays: what was handed out stays as it is, whatever the lock goes through, and the lock, whatever is done to it.
func TestP1903ViewStays(t *testing.T) {
	l := lockOf(t, 3, 5, 6, 7, 8)
	v, other := l.View(), l.View()
	wantLeave(t, l, 7, 1)
	wantLeave(t, l, 5, 2)
	wantGrant(t, l, 6, true)
	wantAsk(t, l, 9, api.OK)
	if want := (api.Lock{ID: 3, Holder: 5, Wait: []int{6, 7, 8}}); !same(v, want) {
		t.Errorf("a view that was handed out became %v", v)
	}
	for i := range v.Wait {
		v.Wait[i] = 77
	}
	if !slices.Equal(other.Wait, []int{6, 7, 8}) {
		t.Errorf("two views share those that wait: %d", other.Wait)
	}
	v = l.View()
	v.Wait = append(v.Wait[:1], 78, 79)
	v.Wait[0] = 80
	wantView(t, l, 3, 6, 8, 9)
}

// ages tell of each token that holds or waits when it asked.
type ages map[int]int

// follow does an act, and asks by who asked when that the laws hold behind it.
func (s ages) follow(t *testing.T, when int, l *Lock, a act) {
	t.Helper()
	before := l.View()
	n, ok := a.do(l)
	after := l.View()
	switch {
	case a.kind == ask && n == int(api.OK):
		s[a.token] = when
	case a.kind == leave && n != 0:
		delete(s, a.token)
	case a.kind == grant && ok:
		for _, token := range after.Wait {
			if s[token] < s[n] {
				t.Fatalf("%d holds, though %d asked ahead of it", n, token)
			}
		}
	}
	if a.kind != grant && after.Holder != before.Holder && after.Holder != 0 {
		t.Fatalf("%d holds behind %s", after.Holder, a)
	}
	if a.kind == grant && before.Holder != 0 && after.Holder != before.Holder {
		t.Fatalf("%d holds behind %d, that did not leave", after.Holder, before.Holder)
	}
	s.count(t, a, after)
}

// count asks that all that asked, and did not leave, are there once each, and those that wait by their age.
func (s ages) count(t *testing.T, a act, v api.Lock) {
	t.Helper()
	there := slices.Clone(v.Wait)
	if v.Holder != 0 {
		there = append(there, v.Holder)
	}
	for _, token := range there {
		if _, ok := s[token]; !ok {
			t.Fatalf("behind %s: %d in %v, though it did not ask, or left", a, token, v)
		}
	}
	slices.Sort(there)
	if len(slices.Compact(there)) != len(s) || len(there) != len(s) {
		t.Fatalf("behind %s: %v, though %d are there", a, v, len(s))
	}
	if !slices.IsSortedFunc(v.Wait, func(x, y int) int { return s[x] - s[y] }) {
		t.Fatalf("behind %s: %v, though they asked in another order", a, v)
	}
}

// mixed are so many acts with tokens out of few.
func mixed(seed uint32, length, few int) []act {
	w := seed
	draw := func(n int) int {
		w = w*1664525 + 1013904223
		return int(w>>8) % n
	}
	edges := slices.Concat(noTokens(), tokenEdges())
	acts := make([]act, length)
	for i := range acts {
		a := act{ask, draw(few)}
		switch draw(8) {
		case 0, 1:
			a = act{grant, 0}
		case 2, 3:
			a.kind = leave
		case 4:
			a = act{kind(draw(3)), edges[draw(len(edges))]}
		}
		acts[i] = a
	}
	return acts
}

// TestP1904AllLittleRows: all rows of up to five acts with three tokens, and with 0.
func TestP1904AllLittleRows(t *testing.T) {
	choice := []act{{grant, 0}}
	for _, token := range []int{0, 1, 2, 3} {
		choice = append(choice, act{ask, token}, act{leave, token})
	}
	var from func(acts []act)
	from = func(acts []act) {
		if len(acts) == 5 {
			play(t, 7, acts)
			s, l := ages{}, New(7)
			for i, a := range acts {
				s.follow(t, i, l, a)
			}
			return
		}
		for _, a := range choice {
			from(append(slices.Clone(acts), a))
		}
	}
	from(nil)
}

// TestP1904MixedRows: with many tokens it is full again and again.
func TestP1904MixedRows(t *testing.T) {
	for k := range uint32(120) {
		acts := mixed(k, 500, 3+int(k)*3)
		play(t, int(k), acts)
		s, l := ages{}, New(int(k))
		for i, a := range acts {
			s.follow(t, i, l, a)
		}
	}
}

// TestP1904FirstComeFirstServed: nobody leaves that waits, and whoever asks comes to hold in the order of asking.
func TestP1904FirstComeFirstServed(t *testing.T) {
	for _, crowd := range []int{1, 2, 3, 7, 63, 64} {
		l := New(3)
		came, served := 0, 0
		for round := 1; served < 3000; round++ {
			for range min(round*13%crowd+1, crowd-(came-served)) {
				came++
				wantAsk(t, l, came, api.OK)
			}
			for range min(round*7%crowd+1, came-served) {
				served++
				wantGrant(t, l, served, true)
				wantGrant(t, l, 0, false)
				wantLeave(t, l, served, 2)
			}
		}
	}
}

// TestP1904NoOtherWays: a queue's own methods would let a holder wait, and somebody wait twice.
func TestP1904NoOtherWays(t *testing.T) {
	methods := reflect.TypeFor[*Lock]()
	var names []string
	for i := range methods.NumMethod() {
		names = append(names, methods.Method(i).Name)
	}
	if want := []string{"Ask", "Grant", "Head", "Leave", "View"}; !slices.Equal(names, want) {
		t.Errorf("a lock has %q, not %q", names, want)
	}
	if fields := reflect.VisibleFields(methods.Elem()); slices.ContainsFunc(fields, reflect.StructField.IsExported) {
		t.Errorf("a lock shows some of its fields: %v", fields)
	}
}

func TestNilLock(t *testing.T) {
	var l *Lock
	for _, token := range slices.Concat(noTokens(), tokenEdges()) {
		wantAsk(t, l, token, api.ErrFull)
		wantLeave(t, l, token, 0)
		wantGrant(t, l, 0, false)
		wantView(t, l, 0, 0)
	}
}

func TestExamplesOfTheChapter(t *testing.T) {
	l := New(1)
	wantAsk(t, l, 5, api.OK)
	wantAsk(t, l, 7, api.OK)
	wantGrant(t, l, 5, true)
	wantView(t, l, 1, 5, 7)
	wantGrant(t, l, 0, false)
	wantLeave(t, l, 5, 2)
	wantGrant(t, l, 7, true)
	wantView(t, l, 1, 7)
}

// actsOfBytes are acts with little tokens, and with edges.
func actsOfBytes(p []byte) []act {
	edges := slices.Concat(noTokens(), tokenEdges())
	acts := make([]act, len(p))
	for i, c := range p {
		token := int(c >> 2)
		if token >= 44 {
			token = edges[token-44]
		}
		acts[i] = []act{{ask, token}, {ask, token}, {leave, token}, {grant, 0}}[c&3]
	}
	return acts
}

func FuzzLock(f *testing.F) {
	f.Add(3, []byte(""))
	f.Add(3, []byte("five, seven, five"))
	f.Add(-1, []byte{20, 28, 3, 3, 22, 3, 20, 30, 2})
	f.Add(9, []byte{200, 204, 208, 3, 202, 3, 212, 206, 0, 2})
	f.Fuzz(func(t *testing.T, id int, p []byte) {
		acts := actsOfBytes(p)
		play(t, id, acts)
		s, l := ages{}, New(id)
		for i, a := range acts {
			s.follow(t, i, l, a)
		}
	})
}
