package aisles

import (
	"fmt"
	"math"
	"slices"
	"strings"
	"testing"

	"tallyman/api"
)

const (
	least    = math.MinInt
	greatest = math.MaxInt
	// These stand here by the chapter's digits.
	topID     = 999
	topAisles = 32
	topTokens = 64
)

// noTokens are numbers below 1, some of which an int of fewer bits takes for a token.
func noTokens() []int {
	return []int{0, -1, -5, -topTokens, -1 << 32, -1<<32 + 5, least + 5, least}
}

// tokenEdges are such as an int of fewer bits takes for one another, or for no token.
func tokenEdges() []int {
	return []int{1, 2, topTokens, topTokens + 1, 1<<31 - 1, 1 << 31, 1 << 32, 1<<32 + 1, greatest - 1, greatest}
}

// noIDs are such that no aisle has.
func noIDs() []int {
	return []int{least, least + 5, -1<<32 + 5, -999, -1, 0, topID + 1, 1 << 16, 1<<32 + 1, 1<<32 + topID, greatest}
}

// span are the numbers from one to another one.
func span(from, to int) []int {
	var l []int
	for n := from; n <= to; n++ {
		l = append(l, n)
	}
	return l
}

// asked is a table, be it this package's or a reckoned one.
type asked interface {
	Enter(token int, want []int) api.Errno
	Leave(token int) bool
	Scan() []Grant
	Got(token int) (int, int, bool)
	Full() []int
	Tokens() []int
	View() []api.Lock
}

// reckoned is a table by the chapter's words: locks by rising IDs, and leases by rising tokens, looked through each time.
type reckoned struct {
	locks  []api.Lock
	leases []api.Lease
}

func reckon(ids []int) *reckoned {
	r := &reckoned{}
	for _, id := range ids {
		r.locks = append(r.locks, api.Lock{ID: id})
	}
	return r
}

func (r *reckoned) lock(id int) *api.Lock {
	for i := range r.locks {
		if r.locks[i].ID == id {
			return &r.locks[i]
		}
	}
	return nil
}

func (r *reckoned) lease(token int) *api.Lease {
	for i := range r.leases {
		if r.leases[i].Token == token {
			return &r.leases[i]
		}
	}
	return nil
}

func (r *reckoned) ask(l *api.Lease) {
	if l.Got < len(l.Want) {
		k := r.lock(l.Want[l.Got])
		k.Wait = append(slices.Clone(k.Wait), l.Token)
	}
}

func (r *reckoned) Enter(token int, want []int) api.Errno {
	if token < 1 || !rises(want) {
		return api.ErrArg
	}
	if slices.ContainsFunc(want, func(id int) bool { return r.lock(id) == nil }) {
		return api.ErrName
	}
	if r.lease(token) != nil {
		return api.ErrTwice
	}
	if len(r.leases) == topTokens {
		return api.ErrFull
	}
	r.leases = append(r.leases, api.Lease{Token: token, Want: slices.Clone(want)})
	slices.SortFunc(r.leases, func(a, b api.Lease) int {
		if a.Token < b.Token {
			return -1
		}
		return 1
	})
	r.ask(r.lease(token))
	return api.OK
}

func (r *reckoned) Leave(token int) bool {
	before := len(r.leases)
	r.leases = slices.DeleteFunc(slices.Clone(r.leases), func(l api.Lease) bool { return l.Token == token })
	if len(r.leases) == before {
		return false
	}
	for i := range r.locks {
		k := &r.locks[i]
		if k.Holder == token {
			k.Holder = 0
		}
		k.Wait = slices.DeleteFunc(slices.Clone(k.Wait), func(n int) bool { return n == token })
	}
	return true
}

func (r *reckoned) Scan() []Grant {
	var grants []Grant
	for i := range r.locks {
		k := &r.locks[i]
		if k.Holder != 0 || len(k.Wait) == 0 {
			continue
		}
		k.Holder, k.Wait = k.Wait[0], k.Wait[1:]
		grants = append(grants, Grant{Token: k.Holder, Aisle: k.ID})
		l := r.lease(k.Holder)
		l.Got++
		r.ask(l)
	}
	return grants
}

func (r *reckoned) Got(token int) (int, int, bool) {
	l := r.lease(token)
	if l == nil {
		return 0, 0, false
	}
	return l.Got, len(l.Want), true
}

func (r *reckoned) Full() []int {
	var full []int
	for _, l := range r.leases {
		if l.Got == len(l.Want) {
			full = append(full, l.Token)
		}
	}
	return full
}

func (r *reckoned) Tokens() []int {
	var tokens []int
	for _, l := range r.leases {
		tokens = append(tokens, l.Token)
	}
	return tokens
}

func (r *reckoned) View() []api.Lock { return r.locks }

func rises(l []int) bool {
	for i := 1; i < len(l); i++ {
		if l[i] <= l[i-1] {
			return false
		}
	}
	return true
}

// act is something that a table goes through.
type act struct {
	kind  kind
	token int
	want  []int
}

type kind int

const (
	enter kind = iota
	leave
	scan
)

// do tells what was answered.
func (a act) do(x asked) string {
	switch a.kind {
	case enter:
		return fmt.Sprint(int(x.Enter(a.token, a.want)))
	case leave:
		return fmt.Sprint(x.Leave(a.token))
	}
	return fmt.Sprint(x.Scan())
}

func (a act) String() string {
	switch a.kind {
	case enter:
		return fmt.Sprintf("Enter(%d, %d)", a.token, a.want)
	case leave:
		return fmt.Sprintf("Leave(%d)", a.token)
	}
	return "Scan"
}

func row(ids []int, acts []act) string {
	var b strings.Builder
	fmt.Fprintf(&b, "New(%d)", ids)
	for _, a := range acts {
		b.WriteString(", " + a.String())
	}
	return b.String()
}

// shown is all that a table tells without a change, of those tokens, and of all that are in it.
func shown(x asked, tokens []int) string {
	var b strings.Builder
	all := x.Tokens()
	fmt.Fprint(&b, x.View(), " full ", x.Full(), " tokens ", all)
	for _, token := range slices.Concat(tokens, all) {
		got, many, ok := x.Got(token)
		fmt.Fprintf(&b, " %d: %d of %d %t,", token, got, many, ok)
	}
	return b.String()
}

// play does the acts with a table and a reckoned one, and asks that each act is answered alike, and that they show alike behind each.
// Ahead of each so many acts it goes on with what is loaded from what the reckoned one has.
func play(t *testing.T, ids []int, acts []act, reload int) {
	t.Helper()
	x, e := New(ids)
	if e != api.OK {
		t.Fatalf("New(%d): %d", ids, e)
	}
	r := reckon(ids)
	for i, a := range acts {
		if reload > 0 && i%reload == 0 {
			if x, e = Load(r.locks, r.leases); e != api.OK {
				t.Fatalf("%s: Load(%v, %v): %d", row(ids, acts[:i]), r.locks, r.leases, e)
			}
		}
		if got, want := a.do(x), a.do(r); got != want {
			t.Fatalf("%s: %s, not %s", row(ids, acts[:i+1]), got, want)
		}
		if got, want := shown(x, []int{a.token}), shown(r, []int{a.token}); got != want {
			t.Fatalf("%s: %s, not %s", row(ids, acts[:i+1]), got, want)
		}
	}
}

func tableOf(t *testing.T, ids ...int) *Table {
	t.Helper()
	x, e := New(ids)
	if e != api.OK || x == nil {
		t.Fatalf("New(%d): %d", ids, e)
	}
	return x
}

func wantEnter(t *testing.T, x *Table, e api.Errno, token int, want ...int) {
	t.Helper()
	before := shown(x, nil)
	if got := x.Enter(token, want); got != e {
		t.Errorf("Enter(%d, %d): %d, not %d", token, want, got, e)
	}
	if after := shown(x, nil); e != api.OK && after != before {
		t.Errorf("Enter(%d, %d) made %s of %s", token, want, after, before)
	}
}

func wantLeave(t *testing.T, x *Table, token int, want bool) {
	t.Helper()
	before := shown(x, nil)
	if got := x.Leave(token); got != want {
		t.Errorf("Leave(%d): %t, not %t", token, got, want)
	}
	if after := shown(x, nil); !want && after != before {
		t.Errorf("Leave(%d) made %s of %s", token, after, before)
	}
}

func wantScan(t *testing.T, x *Table, want ...Grant) {
	t.Helper()
	if got := x.Scan(); !slices.Equal(got, want) {
		t.Errorf("Scan: %v, not %v", got, want)
	}
}

func wantGot(t *testing.T, x *Table, token, got, many int, is bool) {
	t.Helper()
	if g, m, ok := x.Got(token); g != got || m != many || ok != is {
		t.Errorf("Got(%d): %d %d %t, not %d %d %t", token, g, m, ok, got, many, is)
	}
}

func wantFull(t *testing.T, x *Table, want ...int) {
	t.Helper()
	if got := x.Full(); !slices.Equal(got, want) {
		t.Errorf("Full: %d, not %d", got, want)
	}
}

func wantTokens(t *testing.T, x *Table, want ...int) {
	t.Helper()
	if got := x.Tokens(); !slices.Equal(got, want) {
		t.Errorf("Tokens: %d, not %d", got, want)
	}
}

func wantView(t *testing.T, x *Table, want ...api.Lock) {
	t.Helper()
	if got := x.View(); !slices.EqualFunc(got, want, same) {
		t.Errorf("View: %v, not %v", got, want)
	}
}

// same takes no list for an empty one.
func same(a, b api.Lock) bool {
	return a.ID == b.ID && a.Holder == b.Holder && slices.Equal(a.Wait, b.Wait)
}

func at(id, holder int, wait ...int) api.Lock {
	return api.Lock{ID: id, Holder: holder, Wait: wait}
}

func wants(token, got int, want ...int) api.Lease {
	return api.Lease{Token: token, Got: got, Want: want}
}

func TestP2001New(t *testing.T) {
	for _, ids := range [][]int{
		nil, {}, {1}, {2}, {topID - 1}, {topID}, {1, 2}, {1, topID}, {3, 40, 500, topID},
		span(1, topAisles-1), span(1, topAisles), span(topID-topAisles+1, topID),
	} {
		x := tableOf(t, ids...)
		var free []api.Lock
		for _, id := range ids {
			free = append(free, at(id, 0))
		}
		for range 2 {
			wantView(t, x, free...)
			wantTokens(t, x)
			wantFull(t, x)
			wantScan(t, x)
			wantGot(t, x, 1, 0, 0, false)
		}
	}
}

func TestP2001NewArg(t *testing.T) {
	wrong := [][]int{
		{1, 1}, {2, 1}, {5, 5, 6}, {1, 2, 2}, {1, 3, 2}, {topID, topID}, {topID, 1},
		span(1, topAisles+1), span(1, topID), span(0, topAisles-1), span(topID-topAisles+2, topID+1),
		append(span(1, topAisles-1), 1), make([]int, topAisles+1),
	}
	for _, id := range noIDs() {
		ids := []int{id, 7}
		slices.Sort(ids)
		wrong = append(wrong, []int{id}, ids)
	}
	for _, ids := range wrong {
		if x, e := New(ids); x != nil || e != api.ErrArg {
			t.Errorf("New(%d): %v %d, not nil %d", ids, x, e, api.ErrArg)
		}
	}
}

// TestP2001Apart: tables have nothing in common, and nothing with what they were made of.
func TestP2001Apart(t *testing.T) {
	ids := []int{1, 2}
	x, y := tableOf(t, ids...), tableOf(t, ids...)
	ids[0], ids[1] = 8, 9
	wantEnter(t, x, api.OK, 5, 1, 2)
	wantScan(t, x, Grant{5, 1}, Grant{5, 2})
	wantView(t, x, at(1, 5), at(2, 5))
	wantView(t, y, at(1, 0), at(2, 0))
	wantTokens(t, y)
}

func TestP2002Enter(t *testing.T) {
	x := tableOf(t, 1, 2, 7)
	wantEnter(t, x, api.OK, 5, 2, 7)
	// Who enters waits for the first aisle alone, also if it is free.
	wantView(t, x, at(1, 0), at(2, 0, 5), at(7, 0))
	wantGot(t, x, 5, 0, 2, true)
	wantEnter(t, x, api.OK, 9, 2)
	wantEnter(t, x, api.OK, 3, 2, 7)
	wantEnter(t, x, api.OK, 4, 1, 2, 7)
	wantView(t, x, at(1, 0, 4), at(2, 0, 5, 9, 3), at(7, 0))
	wantEnter(t, x, api.OK, 6)
	wantFull(t, x, 6)
	wantTokens(t, x, 3, 4, 5, 6, 9)
	none := tableOf(t)
	wantEnter(t, none, api.OK, 6)
	wantEnter(t, none, api.ErrName, 7, 1)
	wantTokens(t, none, 6)
}

func TestP2002EnterTokens(t *testing.T) {
	x := tableOf(t, 3)
	for _, token := range noTokens() {
		wantEnter(t, x, api.ErrArg, token, 3)
		wantEnter(t, x, api.ErrArg, token)
	}
	for _, token := range tokenEdges() {
		wantEnter(t, x, api.OK, token, 3)
	}
	wantView(t, x, at(3, 0, tokenEdges()...))
	wantTokens(t, x, tokenEdges()...)
	for _, token := range tokenEdges() {
		wantScan(t, x, Grant{token, 3})
		wantLeave(t, x, token, true)
	}
}

// TestP2002EnterErrors: each error is told ahead of those that the chapter names behind it.
func TestP2002EnterErrors(t *testing.T) {
	x := tableOf(t, 1, 2, 7)
	wantEnter(t, x, api.OK, 5, 1, 7)
	wantEnter(t, x, api.OK, 6)
	noSuch := [][]int{{3}, {1, 3}, {3, 7}, {0, 1}, {7, 8}, {1, 2, 3, 7}, span(1, 40)}
	for _, id := range noIDs() {
		noSuch = append(noSuch, []int{id})
	}
	fallen := [][]int{{1, 1}, {2, 1}, {1, 7, 7}, {1, 7, 2}, {3, 3}, {4, 3}, {greatest, least}}
	eachWrong := func(in, out int, free api.Errno) {
		t.Helper()
		for _, want := range fallen {
			wantEnter(t, x, api.ErrArg, in, want...)
			wantEnter(t, x, api.ErrArg, out, want...)
			wantEnter(t, x, api.ErrArg, 0, want...)
		}
		for _, want := range noSuch {
			wantEnter(t, x, api.ErrArg, 0, want...)
			wantEnter(t, x, api.ErrName, in, want...)
			wantEnter(t, x, api.ErrName, out, want...)
		}
		for _, want := range [][]int{nil, {1}, {1, 7}, {1, 2, 7}} {
			wantEnter(t, x, api.ErrArg, -1, want...)
			wantEnter(t, x, api.ErrTwice, in, want...)
			if free != api.OK {
				wantEnter(t, x, free, out, want...)
			}
		}
	}
	eachWrong(5, 50, api.OK)
	eachWrong(6, 50, api.OK)
	wantScan(t, x, Grant{5, 1}, Grant{5, 7})
	eachWrong(5, 50, api.OK)
	for token := 100; token < 100+topTokens-2; token++ {
		wantEnter(t, x, api.OK, token, 2, 7)
	}
	eachWrong(5, 50, api.ErrFull)
	eachWrong(100, 50, api.ErrFull)
}

// TestP2002EnterFull: that one leaves, wherever it stands, makes room for one.
func TestP2002EnterFull(t *testing.T) {
	for _, want := range [][]int{nil, {1}, {1, 2}, {2}} {
		x := tableOf(t, 1, 2)
		for n := range topTokens {
			wantEnter(t, x, api.OK, n+1, want...)
		}
		wantTokens(t, x, span(1, topTokens)...)
		wantEnter(t, x, api.ErrFull, 900, want...)
		wantEnter(t, x, api.ErrFull, 900)
		x.Scan()
		wantEnter(t, x, api.ErrFull, 900, want...)
		for _, token := range []int{1, topTokens, 33, 2} {
			wantLeave(t, x, token, true)
			wantEnter(t, x, api.OK, 1000+token, want...)
			wantEnter(t, x, api.ErrFull, 900, want...)
		}
	}
}

// TestP2002EnterKeeps: what a token wants stays so, whatever becomes of the list that was handed in, and of its spare room.
func TestP2002EnterKeeps(t *testing.T) {
	x := tableOf(t, 1, 2, 3, 4)
	room := []int{1, 2, 3, 4}
	if e := x.Enter(5, room[:2]); e != api.OK {
		t.Fatalf("Enter: %d", e)
	}
	if !slices.Equal(room, []int{1, 2, 3, 4}) {
		t.Errorf("Enter changed what was handed in: %d", room)
	}
	room[0], room[1] = 3, 4
	wantScan(t, x, Grant{5, 1}, Grant{5, 2})
	wantLeave(t, x, 5, true)
	wantView(t, x, at(1, 0), at(2, 0), at(3, 0), at(4, 0))
}

func TestP2002Leave(t *testing.T) {
	x := tableOf(t, 1, 2, 7)
	for _, token := range slices.Concat(noTokens(), tokenEdges()) {
		wantLeave(t, x, token, false)
	}
	wantEnter(t, x, api.OK, 5, 1, 2)
	wantEnter(t, x, api.OK, 6, 1, 7)
	wantEnter(t, x, api.OK, 8, 1, 2, 7)
	wantEnter(t, x, api.OK, 9, 7)
	wantEnter(t, x, api.OK, 3)
	wantScan(t, x, Grant{5, 1}, Grant{5, 2}, Grant{9, 7})
	wantView(t, x, at(1, 5, 6, 8), at(2, 5), at(7, 9))
	for _, token := range noTokens() {
		wantLeave(t, x, token, false)
	}
	// Who is full gives back all, who waits is gone from where it waits, and the others stay in their order.
	wantLeave(t, x, 5, true)
	wantView(t, x, at(1, 0, 6, 8), at(2, 0), at(7, 9))
	wantGot(t, x, 5, 0, 0, false)
	wantLeave(t, x, 5, false)
	wantLeave(t, x, 6, true)
	wantView(t, x, at(1, 0, 8), at(2, 0), at(7, 9))
	wantScan(t, x, Grant{8, 1}, Grant{8, 2})
	wantView(t, x, at(1, 8), at(2, 8), at(7, 9, 8))
	// Who holds some, and waits for the next one, is gone from all.
	wantLeave(t, x, 8, true)
	wantView(t, x, at(1, 0), at(2, 0), at(7, 9))
	wantLeave(t, x, 3, true)
	wantTokens(t, x, 9)
	wantLeave(t, x, 9, true)
	wantView(t, x, at(1, 0), at(2, 0), at(7, 0))
	wantTokens(t, x)
	// Who comes back comes anew.
	wantEnter(t, x, api.OK, 4, 2)
	wantEnter(t, x, api.OK, 5, 2, 7)
	wantView(t, x, at(1, 0), at(2, 0, 4, 5), at(7, 0))
	wantLeave(t, x, 4, true)
	wantEnter(t, x, api.OK, 4, 2, 7)
	wantView(t, x, at(1, 0), at(2, 0, 5, 4), at(7, 0))
	wantGot(t, x, 4, 0, 2, true)
}

func TestP2003Scan(t *testing.T) {
	x := tableOf(t, 1, 2, 7)
	wantEnter(t, x, api.OK, 8, 7)
	wantEnter(t, x, api.OK, 5, 1, 2, 7)
	wantEnter(t, x, api.OK, 6, 1)
	// 5 gets two aisles in one Scan, and asks for 7 behind 8, which is granted it in the same one.
	wantScan(t, x, Grant{5, 1}, Grant{5, 2}, Grant{8, 7})
	wantView(t, x, at(1, 5, 6), at(2, 5), at(7, 8, 5))
	wantScan(t, x)
	wantLeave(t, x, 8, true)
	wantScan(t, x, Grant{5, 7})
	wantScan(t, x)
	wantLeave(t, x, 5, true)
	wantScan(t, x, Grant{6, 1})
	wantScan(t, x)
}

// TestP2003ScanOncePerAisle: an aisle is granted once in a Scan, and who waits behind is not.
func TestP2003ScanOncePerAisle(t *testing.T) {
	x := tableOf(t, 4)
	for _, token := range []int{9, 2, 5} {
		wantEnter(t, x, api.OK, token, 4)
	}
	wantScan(t, x, Grant{9, 4})
	wantView(t, x, at(4, 9, 2, 5))
	wantFull(t, x, 9)
}

// TestP2003ScanNextBehind: who asks for the next aisle in a Scan comes behind all that wait for it by then.
func TestP2003ScanNextBehind(t *testing.T) {
	x := tableOf(t, 1, 2, 3)
	wantEnter(t, x, api.OK, 10, 1, 3)
	wantEnter(t, x, api.OK, 20, 2, 3)
	wantScan(t, x, Grant{10, 1}, Grant{20, 2}, Grant{10, 3})
	wantView(t, x, at(1, 10), at(2, 20), at(3, 10, 20))
	wantEnter(t, x, api.OK, 30, 3)
	wantLeave(t, x, 10, true)
	wantScan(t, x, Grant{20, 3})
	wantView(t, x, at(1, 0), at(2, 20), at(3, 20, 30))
}

// TestP2003ScanAll: in the widest table one gets all aisles in one Scan, or all but the last one, for which another one waits.
func TestP2003ScanAll(t *testing.T) {
	ids := span(topID-topAisles+1, topID)
	x := tableOf(t, ids...)
	wantEnter(t, x, api.OK, 5, ids...)
	wantEnter(t, x, api.OK, 6, ids...)
	var all []Grant
	for _, id := range ids {
		all = append(all, Grant{5, id})
	}
	wantScan(t, x, all...)
	wantFull(t, x, 5)
	wantGot(t, x, 6, 0, topAisles, true)
	wantLeave(t, x, 5, true)
	wantEnter(t, x, api.OK, 7, ids[topAisles-1])
	wantScan(t, x, slices.Concat(grantsTo(6, ids[:topAisles-1]), []Grant{{7, topID}})...)
	wantGot(t, x, 6, topAisles-1, topAisles, true)
}

func grantsTo(token int, ids []int) []Grant {
	var grants []Grant
	for _, id := range ids {
		grants = append(grants, Grant{token, id})
	}
	return grants
}

func freeLocks(ids []int) []api.Lock {
	var locks []api.Lock
	for _, id := range ids {
		locks = append(locks, at(id, 0))
	}
	return locks
}

func TestP2004Got(t *testing.T) {
	x := tableOf(t, 1, 2, 3)
	wantEnter(t, x, api.OK, 5, 1, 2, 3)
	wantEnter(t, x, api.OK, 6, 2, 3)
	wantEnter(t, x, api.OK, 7)
	wantGot(t, x, 5, 0, 3, true)
	wantGot(t, x, 6, 0, 2, true)
	wantGot(t, x, 7, 0, 0, true)
	wantScan(t, x, Grant{5, 1}, Grant{6, 2}, Grant{6, 3})
	wantGot(t, x, 5, 1, 3, true)
	wantGot(t, x, 6, 2, 2, true)
	wantLeave(t, x, 6, true)
	wantGot(t, x, 6, 0, 0, false)
	wantGot(t, x, 5, 1, 3, true)
	wantScan(t, x, Grant{5, 2}, Grant{5, 3})
	wantGot(t, x, 5, 3, 3, true)
	for _, token := range slices.Concat(noTokens(), []int{1, 2, 4, 1<<32 + 5, greatest}) {
		wantGot(t, x, token, 0, 0, false)
	}
}

// TestP2004FullTokens: they rise, however they came.
func TestP2004FullTokens(t *testing.T) {
	x := tableOf(t, 1, 2)
	for _, token := range []int{40, 7, 90, 1, 22} {
		wantEnter(t, x, api.OK, token)
	}
	for _, token := range []int{80, 3, 60} {
		wantEnter(t, x, api.OK, token, 1, 2)
	}
	wantFull(t, x, 1, 7, 22, 40, 90)
	wantTokens(t, x, 1, 3, 7, 22, 40, 60, 80, 90)
	wantScan(t, x, Grant{80, 1}, Grant{80, 2})
	wantFull(t, x, 1, 7, 22, 40, 80, 90)
	wantLeave(t, x, 80, true)
	wantLeave(t, x, 22, true)
	wantFull(t, x, 1, 7, 40, 90)
	wantTokens(t, x, 1, 3, 7, 40, 60, 90)
	many := tableOf(t, 1)
	for n := range topTokens {
		wantEnter(t, many, api.OK, 1+n*37%topTokens)
	}
	for range 20 {
		wantFull(t, many, span(1, topTokens)...)
		wantTokens(t, many, span(1, topTokens)...)
	}
}

// TestP2004ViewRises: also where a map would tell its keys in any order.
func TestP2004ViewRises(t *testing.T) {
	var ids []int
	for n := range topAisles {
		ids = append(ids, 1+n*31)
	}
	x := tableOf(t, ids...)
	for range 20 {
		wantView(t, x, freeLocks(ids)...)
	}
}

// TestP2004Stays: what was handed out stays as it is, whatever the table goes through, and the table, whatever is done to it.
func TestP2004Stays(t *testing.T) {
	x := tableOf(t, 1, 2)
	wantEnter(t, x, api.OK, 5, 1, 2)
	wantEnter(t, x, api.OK, 6, 1)
	wantEnter(t, x, api.OK, 7, 1)
	wantEnter(t, x, api.OK, 8)
	view, full, tokens, grants := x.View(), x.Full(), x.Tokens(), x.Scan()
	other := x.View()
	wantLeave(t, x, 6, true)
	wantLeave(t, x, 5, true)
	wantScan(t, x, Grant{7, 1})
	if !slices.EqualFunc(view, []api.Lock{at(1, 0, 5, 6, 7), at(2, 0)}, same) || !slices.EqualFunc(other, []api.Lock{at(1, 5, 6, 7), at(2, 5)}, same) {
		t.Errorf("views that were handed out became %v, %v", view, other)
	}
	if !slices.Equal(full, []int{8}) || !slices.Equal(tokens, []int{5, 6, 7, 8}) || !slices.Equal(grants, []Grant{{5, 1}, {5, 2}}) {
		t.Errorf("lists that were handed out became %d, %d, %v", full, tokens, grants)
	}
	before := shown(x, nil)
	for i := range other {
		for j := range other[i].Wait {
			other[i].Wait[j] = 77
		}
		other[i].ID, other[i].Holder = 78, 79
	}
	full, tokens, view = x.Full(), x.Tokens(), x.View()
	full[0], tokens[0], view[0].Holder = 80, 81, 82
	if after := shown(x, nil); after != before {
		t.Errorf("what was done to lists made %s of %s", after, before)
	}
}

// loadable tells by the chapter's words what Load takes.
func loadable(locks []api.Lock, leases []api.Lease) bool {
	ids := idsIn(locks)
	if !rises(ids) || len(ids) > topAisles || slices.ContainsFunc(ids, func(id int) bool { return id < 1 || id > topID }) || len(leases) > topTokens {
		return false
	}
	for i, l := range leases {
		if l.Token < 1 || i > 0 && l.Token <= leases[i-1].Token || !rises(l.Want) || l.Got < 0 || l.Got > len(l.Want) {
			return false
		}
		if slices.ContainsFunc(l.Want, func(id int) bool { return !slices.Contains(ids, id) }) {
			return false
		}
	}
	r := &reckoned{locks, leases}
	for _, k := range locks {
		if k.Holder != 0 {
			if l := r.lease(k.Holder); l == nil || !slices.Contains(l.Want[:l.Got], k.ID) {
				return false
			}
		}
		for i, token := range k.Wait {
			if l := r.lease(token); slices.Contains(k.Wait[:i], token) || l == nil || l.Got >= len(l.Want) || l.Want[l.Got] != k.ID {
				return false
			}
		}
	}
	for _, l := range leases {
		for i, id := range l.Want {
			if i < l.Got && r.lock(id).Holder != l.Token || i == l.Got && !slices.Contains(r.lock(id).Wait, l.Token) {
				return false
			}
		}
	}
	return true
}

func idsIn(locks []api.Lock) []int {
	var ids []int
	for _, k := range locks {
		ids = append(ids, k.ID)
	}
	return ids
}

// tryLoad tells whether they were loaded, and asks that the chapter says so, and that what is loaded is what the lists say.
func tryLoad(t *testing.T, locks []api.Lock, leases []api.Lease) bool {
	t.Helper()
	x, e := Load(locks, leases)
	if !loadable(locks, leases) {
		if x != nil || e != api.ErrArg {
			t.Fatalf("Load(%v, %v): %v %d, not nil %d", locks, leases, x, e, api.ErrArg)
		}
		return false
	}
	if e != api.OK || x == nil {
		t.Fatalf("Load(%v, %v): %d", locks, leases, e)
	}
	r := &reckoned{locks, leases}
	if got, want := shown(x, []int{0, 1, 2, 3}), shown(r, []int{0, 1, 2, 3}); got != want {
		t.Fatalf("Load(%v, %v): %s, not %s", locks, leases, got, want)
	}
	return true
}

func wantLoad(t *testing.T, is bool, locks []api.Lock, leases []api.Lease) {
	t.Helper()
	if loaded := tryLoad(t, locks, leases); loaded != is {
		t.Errorf("Load(%v, %v): %t, not %t", locks, leases, loaded, is)
	}
}

func TestP2006Load(t *testing.T) {
	wantLoad(t, true, nil, nil)
	wantLoad(t, true, []api.Lock{}, []api.Lease{})
	wantLoad(t, true, nil, []api.Lease{wants(1, 0), wants(greatest, 0)})
	wantLoad(t, true, freeLocks(span(1, topAisles)), nil)
	wantLoad(t, true, freeLocks([]int{1, topID}), []api.Lease{wants(5, 0)})
	// A lock may be free, though somebody waits, and those that wait may stand in any order.
	wantLoad(t, true, []api.Lock{at(1, 0, 9, 5, 7), at(2, 0)}, []api.Lease{wants(5, 0, 1), wants(7, 0, 1, 2), wants(9, 0, 1)})
	wantLoad(t, true, []api.Lock{at(1, 5, 7), at(2, 9, 5)}, []api.Lease{wants(5, 1, 1, 2), wants(7, 0, 1), wants(9, 1, 2)})
	wantLoad(t, true, []api.Lock{at(1, 5), at(2, 0), at(3, 5, 7), at(4, 0, 5)}, []api.Lease{wants(5, 2, 1, 3, 4), wants(7, 0, 3)})
	var tokens []int
	var leases []api.Lease
	for _, token := range tokenEdges() {
		tokens = append(tokens, token)
		leases = append(leases, wants(token, 0, 2))
	}
	wantLoad(t, true, []api.Lock{at(2, 0, tokens...)}, leases)
}

func TestP2006LoadLimits(t *testing.T) {
	for _, many := range []int{topTokens - 1, topTokens, topTokens + 1} {
		var idle, waiting []api.Lease
		for token := range many {
			idle = append(idle, wants(token+1, 0))
			waiting = append(waiting, wants(token+1, 0, 7))
		}
		wantLoad(t, many <= topTokens, nil, idle)
		wantLoad(t, many <= topTokens, []api.Lock{at(7, 0, span(1, many)...)}, waiting)
		held := slices.Clone(waiting)
		held[0].Got = 1
		wantLoad(t, many <= topTokens, []api.Lock{at(7, 1, span(2, many)...)}, held)
	}
	for _, many := range []int{topAisles - 1, topAisles, topAisles + 1} {
		wantLoad(t, many <= topAisles, freeLocks(span(1, many)), nil)
		wantLoad(t, many <= topAisles, freeLocks(span(topID-many+1, topID)), nil)
		var locks []api.Lock
		for id := range many {
			locks = append(locks, at(id+1, 4))
		}
		wantLoad(t, many <= topAisles, locks, []api.Lease{wants(4, many, span(1, many)...)})
	}
	for _, id := range noIDs() {
		wantLoad(t, false, freeLocks([]int{id}), nil)
		wantLoad(t, false, freeLocks([]int{5}), []api.Lease{wants(4, 0, id)})
	}
	wantLoad(t, false, freeLocks([]int{2, 1}), nil)
	wantLoad(t, false, freeLocks([]int{1, 1}), nil)
}

// TestP2006LoadArg: what is right but for one thing.
func TestP2006LoadArg(t *testing.T) {
	locks := func() []api.Lock { return []api.Lock{at(1, 5, 7), at(2, 5, 8), at(3, 9, 5), at(4, 0)} }
	leases := func() []api.Lease {
		return []api.Lease{wants(5, 2, 1, 2, 3), wants(7, 0, 1, 4), wants(8, 0, 2), wants(9, 1, 3)}
	}
	wantLoad(t, true, locks(), leases())
	wrong := func(change func(k []api.Lock, l []api.Lease)) {
		t.Helper()
		k, l := locks(), leases()
		change(k, l)
		wantLoad(t, false, k, l)
	}
	for _, token := range noTokens() {
		wrong(func(k []api.Lock, l []api.Lease) { l[0].Token = token })
		wrong(func(k []api.Lock, l []api.Lease) {
			k[0].Holder, k[1].Holder, k[2].Wait[0], l[0].Token = token, token, token, token
		})
		wrong(func(k []api.Lock, l []api.Lease) { k[0].Wait[0] = token })
	}
	for _, token := range []int{-5, 1, 7, 8, 9, 77, 1<<32 + 5} {
		wrong(func(k []api.Lock, l []api.Lease) { k[0].Holder = token })
		wrong(func(k []api.Lock, l []api.Lease) { k[3].Holder = token })
	}
	wrong(func(k []api.Lock, l []api.Lease) { k[3].Holder = 5 })
	wrong(func(k []api.Lock, l []api.Lease) { k[0].Holder = 0 })
	wrong(func(k []api.Lock, l []api.Lease) { k[1].Holder = 0 })
	wrong(func(k []api.Lock, l []api.Lease) { k[2].Holder = 5 })
	for _, token := range []int{1, 5, 7, 8, 9, 77} {
		wrong(func(k []api.Lock, l []api.Lease) { k[0].Wait = append(k[0].Wait, token) })
		wrong(func(k []api.Lock, l []api.Lease) { k[3].Wait = []int{token} })
		if token != 5 {
			wrong(func(k []api.Lock, l []api.Lease) { k[2].Wait[0] = token })
		}
	}
	for i := range 3 {
		wrong(func(k []api.Lock, l []api.Lease) { k[i].Wait = nil })
	}
	wrong(func(k []api.Lock, l []api.Lease) { l[1].Token, l[2].Token = 8, 7 })
	wrong(func(k []api.Lock, l []api.Lease) { l[1], l[2] = l[2], l[1] })
	wrong(func(k []api.Lock, l []api.Lease) { l[3].Token = 8 })
	wrong(func(k []api.Lock, l []api.Lease) { k[3].ID = 3 })
	wrong(func(k []api.Lock, l []api.Lease) { k[0], k[3] = k[3], k[0] })
	for _, got := range []int{least, -1, 0, 1, 3, 4, 1 << 32, 1<<32 + 2, greatest} {
		wrong(func(k []api.Lock, l []api.Lease) { l[0].Got = got })
	}
	for _, want := range [][]int{nil, {1}, {1, 2}, {2, 1, 3}, {1, 1, 2, 3}, {1, 2, 2}, {1, 2, 3, 3}, {1, 2, 3, 2}, {1, 2, 4}, {1, 3, 4}, {1, 2, 3, 5}, {0, 1, 2, 3}} {
		wrong(func(k []api.Lock, l []api.Lease) { l[0].Want = want })
	}
	// What a token wants later may be anything.
	k, l := locks(), leases()
	l[0].Want = []int{1, 2, 3, 4}
	wantLoad(t, true, k, l)
	wantLoad(t, false, k, l[1:])
	wantLoad(t, false, k[1:], l)
	wantLoad(t, false, k, nil)
	wantLoad(t, false, nil, l)
}

// TestP2006LoadTokens: also those that want nothing, or hold all, rise from 1 on.
func TestP2006LoadTokens(t *testing.T) {
	for _, token := range noTokens() {
		wantLoad(t, false, nil, []api.Lease{wants(token, 0)})
		wantLoad(t, false, nil, []api.Lease{wants(token, 0), wants(5, 0)})
		wantLoad(t, false, []api.Lock{at(1, token)}, []api.Lease{wants(token, 1, 1)})
		wantLoad(t, false, []api.Lock{at(1, 0, token)}, []api.Lease{wants(token, 0, 1)})
	}
	for _, token := range tokenEdges() {
		wantLoad(t, true, []api.Lock{at(1, token)}, []api.Lease{wants(token, 1, 1)})
		wantLoad(t, false, nil, []api.Lease{wants(token, 0), wants(token, 0)})
		wantLoad(t, false, []api.Lock{at(1, token)}, []api.Lease{wants(token, 1, 1), wants(token, 1, 1)})
		wantLoad(t, false, []api.Lock{at(1, token)}, []api.Lease{wants(token, 0), wants(token, 1, 1)})
	}
	wantLoad(t, true, nil, []api.Lease{wants(4, 0), wants(5, 0), wants(6, 0)})
	wantLoad(t, false, nil, []api.Lease{wants(4, 0), wants(6, 0), wants(5, 0)})
	wantLoad(t, false, nil, []api.Lease{wants(5, 0), wants(4, 0), wants(6, 0)})
}

// TestP2006LoadTwice: no aisle is held by two, nobody waits for two, or where it holds.
func TestP2006LoadTwice(t *testing.T) {
	wantLoad(t, false, []api.Lock{at(1, 5)}, []api.Lease{wants(5, 1, 1), wants(6, 1, 1)})
	wantLoad(t, false, []api.Lock{at(1, 6)}, []api.Lease{wants(5, 1, 1), wants(6, 1, 1)})
	wantLoad(t, false, []api.Lock{at(1, 0, 5), at(2, 0, 5)}, []api.Lease{wants(5, 0, 1, 2)})
	wantLoad(t, false, []api.Lock{at(1, 5, 5)}, []api.Lease{wants(5, 1, 1)})
	wantLoad(t, false, []api.Lock{at(1, 5, 5), at(2, 0, 5)}, []api.Lease{wants(5, 1, 1, 2)})
	wantLoad(t, false, []api.Lock{at(1, 0, 5, 5)}, []api.Lease{wants(5, 0, 1)})
	wantLoad(t, false, []api.Lock{at(1, 0, 5, 6, 5)}, []api.Lease{wants(5, 0, 1), wants(6, 0, 1)})
	wantLoad(t, false, []api.Lock{at(1, 0, make([]int, 1000)...)}, []api.Lease{wants(5, 0, 1)})
}

// TestP2006LoadKeeps: the rest of a lease is not asked for, and the table has nothing in common with what it was loaded from.
func TestP2006LoadKeeps(t *testing.T) {
	locks := []api.Lock{at(1, 5, 7, 8), at(2, 0, 5), at(3, 0)}
	leases := []api.Lease{wants(5, 1, 1, 2), wants(7, 0, 1), wants(8, 0, 1, 3)}
	for i := range leases {
		leases[i].Task, leases[i].Worker, leases[i].Unit, leases[i].Due = 5, -7, least, greatest-i
	}
	wantLoad(t, true, locks, leases)
	x, e := Load(locks, leases)
	if e != api.OK {
		t.Fatalf("Load: %d", e)
	}
	locks[0].Wait[0], locks[1].Wait[0], locks[2].Holder = 8, 8, 8
	leases[0].Want[0], leases[0].Want[1], leases[1].Want[0] = 2, 3, 3
	wantView(t, x, at(1, 5, 7, 8), at(2, 0, 5), at(3, 0))
	wantScan(t, x, Grant{5, 2})
	wantLeave(t, x, 5, true)
	wantScan(t, x, Grant{7, 1})
	wantLeave(t, x, 7, true)
	wantScan(t, x, Grant{8, 1}, Grant{8, 3})
	wantView(t, x, at(1, 8), at(2, 0), at(3, 8))
	if !same(locks[0], at(1, 5, 8, 8)) || !same(locks[1], at(2, 0, 8)) || !slices.Equal(leases[2].Want, []int{1, 3}) {
		t.Errorf("what was handed in became %v, %v", locks, leases)
	}
}

// TestP2006AllLittleOnes: all of two locks, and up to two leases, with little numbers.
func TestP2006AllLittleOnes(t *testing.T) {
	var leaseOf []api.Lease
	for _, want := range [][]int{nil, {1}, {2}, {1, 2}, {2, 1}, {3}} {
		for got := -1; got <= 2; got++ {
			leaseOf = append(leaseOf, wants(1, got, want...))
		}
	}
	rows := [][]api.Lease{nil}
	for _, one := range leaseOf {
		rows = append(rows, []api.Lease{one})
		for _, two := range leaseOf {
			two.Token = 2
			rows = append(rows, []api.Lease{one, two})
		}
	}
	var lockOf []api.Lock
	for holder := range 4 {
		for _, wait := range [][]int{nil, {1}, {2}, {1, 2}, {2, 1}, {1, 1}, {3}} {
			lockOf = append(lockOf, at(1, holder, wait...))
		}
	}
	loaded := 0
	for _, one := range lockOf {
		for _, two := range lockOf {
			two.ID = 2
			for _, leases := range rows {
				if tryLoad(t, []api.Lock{one, two}, leases) {
					loaded++
				}
			}
		}
	}
	if loaded < 30 {
		t.Errorf("just %d were loaded", loaded)
	}
}

// laws follow a table by what it answers alone.
type laws struct {
	t    *testing.T
	x    *Table
	want map[int][]int
}

func (s laws) follow(a act) {
	s.t.Helper()
	stuck := a.kind == scan && s.waiting()
	switch a.kind {
	case enter:
		if s.x.Enter(a.token, a.want) == api.OK {
			s.want[a.token] = a.want
		}
	case leave:
		s.x.Leave(a.token)
		delete(s.want, a.token)
	case scan:
		if grants := s.x.Scan(); stuck && len(grants) == 0 && !s.somebodyFull() {
			s.t.Fatalf("Scan grants nothing to anybody that waits in %v", s.x.View())
		}
	}
	s.hold(a)
}

func (s laws) waiting() bool {
	for token := range s.want {
		if got, many, _ := s.x.Got(token); got < many {
			return true
		}
	}
	return false
}

// somebodyFull asks for one that holds something: it is on such a one that the others wait.
func (s laws) somebodyFull() bool {
	return slices.ContainsFunc(s.x.Full(), func(token int) bool { return len(s.want[token]) > 0 })
}

func (s laws) hold(a act) {
	s.t.Helper()
	holders, waits := map[int]int{}, map[int]int{}
	for _, k := range s.x.View() {
		holders[k.ID] = k.Holder
		for _, token := range k.Wait {
			if waits[token] != 0 {
				s.t.Fatalf("behind %s: %d waits twice in %v", a, token, s.x.View())
			}
			waits[token] = k.ID
		}
		if k.Holder != 0 && !slices.Contains(s.want[k.Holder], k.ID) {
			s.t.Fatalf("behind %s: the holder of %d is not in the table, or does not want it: %v", a, k.ID, s.x.View())
		}
		if a.kind == scan && k.Holder == 0 && len(k.Wait) > 0 {
			s.t.Fatalf("behind a Scan somebody waits for %d, which is free: %v", k.ID, s.x.View())
		}
	}
	for token, want := range s.want {
		got, many, ok := s.x.Got(token)
		if !ok || many != len(want) || got < many && waits[token] != want[got] || got == many && waits[token] != 0 {
			s.t.Fatalf("behind %s: %d wants %d, has %d, and waits for %d", a, token, want, got, waits[token])
		}
		for i, id := range want {
			if (holders[id] == token) != (i < got) {
				s.t.Fatalf("behind %s: %d wants %d, of which it has %d: %v", a, token, want, got, s.x.View())
			}
		}
	}
	if len(s.want) != len(s.x.Tokens()) {
		s.t.Fatalf("behind %s: tokens %d, not those of %v", a, s.x.Tokens(), s.want)
	}
}

func followAll(t *testing.T, ids []int, acts []act) {
	t.Helper()
	s := laws{t, tableOf(t, ids...), map[int][]int{}}
	for _, a := range acts {
		s.follow(a)
	}
}

// mixed are so many acts with tokens out of few, and some of those aisles; some are wrong.
func mixed(seed uint32, length, few int, ids []int) []act {
	w := seed
	draw := func(n int) int {
		w = w*1664525 + 1013904223
		return int(w>>8) % n
	}
	edges := slices.Concat(noTokens(), tokenEdges())
	sparse := 1 + draw(6)
	acts := make([]act, length)
	for i := range acts {
		a := act{kind: enter, token: 1 + draw(few)}
		switch draw(7) {
		case 0:
			a = act{kind: scan}
		case 1, 2:
			a.kind = leave
		case 3:
			a.token = edges[draw(len(edges))]
		}
		if a.kind == enter {
			for _, id := range ids {
				if draw(sparse) == 0 {
					a.want = append(a.want, id)
				}
			}
			if len(a.want) > 0 && draw(12) == 0 {
				a.want[draw(len(a.want))] = draw(topID + 2)
			}
		}
		acts[i] = a
	}
	return acts
}

// TestP2005AllLittleRows: all rows of four acts, and a Scan behind them, with three tokens, two aisles, and one that there is not.
func TestP2005AllLittleRows(t *testing.T) {
	ids := []int{1, 2}
	choice := []act{{kind: scan}}
	for token := 1; token <= 3; token++ {
		choice = append(choice, act{kind: leave, token: token})
		for _, want := range [][]int{{1}, {1, 2}, {2}}[:4-token] {
			choice = append(choice, act{enter, token, want})
		}
	}
	choice = append(choice, act{kind: enter, token: 3}, act{enter, 2, []int{2, 3}})
	var from func(acts []act)
	from = func(acts []act) {
		if len(acts) == 4 {
			acts = append(slices.Clone(acts), act{kind: scan})
			play(t, ids, acts, 0)
			play(t, ids, acts, 1)
			followAll(t, ids, acts)
			return
		}
		for _, a := range choice {
			from(append(slices.Clone(acts), a))
		}
	}
	from(nil)
}

// TestP2005MixedRows: with many tokens the table is full again and again.
func TestP2005MixedRows(t *testing.T) {
	for k := range uint32(60) {
		var ids []int
		for n := range 1 + int(k)%topAisles {
			ids = append(ids, 1+n*(1+int(k)/2))
		}
		acts := mixed(k, 300, 2+int(k)*4, ids)
		play(t, ids, acts, 0)
		play(t, ids, acts, 1+int(k)%5)
		followAll(t, ids, acts)
	}
}

// TestP2005AllAreServed: where each one that is full leaves, all come to be full.
func TestP2005AllAreServed(t *testing.T) {
	ids := span(1, topAisles)
	x := tableOf(t, ids...)
	for n := range topTokens {
		var want []int
		for _, id := range ids {
			if (id*7+n*5)%(2+n%9) == 0 {
				want = append(want, id)
			}
		}
		wantEnter(t, x, api.OK, 1+n, want...)
	}
	for round := 0; len(x.Tokens()) > 0; round++ {
		x.Scan()
		full := x.Full()
		if len(full) == 0 || round == topTokens {
			t.Fatalf("round %d: %d are full: %v", round, full, x.View())
		}
		for _, token := range full {
			wantLeave(t, x, token, true)
		}
	}
	wantView(t, x, freeLocks(ids)...)
}

func TestNilTable(t *testing.T) {
	var x *Table
	for _, token := range slices.Concat(noTokens(), tokenEdges()) {
		for _, want := range [][]int{nil, {1}, {2, 1}, {1, 1}, {0}} {
			if e := x.Enter(token, want); e != api.ErrFull {
				t.Errorf("Enter(%d, %d) of nil: %d", token, want, e)
			}
		}
		if x.Leave(token) {
			t.Errorf("Leave(%d) of nil: true", token)
		}
		wantGot(t, x, token, 0, 0, false)
	}
	wantScan(t, x)
	wantFull(t, x)
	wantTokens(t, x)
	wantView(t, x)
}

func TestExamplesOfTheChapter(t *testing.T) {
	x := tableOf(t, 1, 2)
	wantEnter(t, x, api.OK, 5, 1, 2)
	wantEnter(t, x, api.OK, 6, 2)
	wantScan(t, x, Grant{5, 1}, Grant{6, 2})
	wantView(t, x, at(1, 5), at(2, 6, 5))
	wantFull(t, x, 6)
}

// actsOfBytes are acts with little tokens, and wants out of six aisles by their bits.
func actsOfBytes(p []byte) []act {
	var acts []act
	for len(p) >= 2 {
		a := act{kind: kind(p[0] % 3), token: int(p[0] / 3)}
		for bit := range 8 {
			if a.kind == enter && p[1]>>bit&1 == 1 {
				a.want = append(a.want, 10*bit)
			}
		}
		acts = append(acts, a)
		p = p[2:]
	}
	return acts
}

func FuzzTable(f *testing.F) {
	f.Add([]byte(""))
	f.Add([]byte("five wants this, and six that"))
	f.Add([]byte{15, 6, 18, 4, 2, 0, 19, 0, 2, 0, 16, 0})
	f.Fuzz(func(t *testing.T, p []byte) {
		ids, acts := []int{10, 20, 30, 40, 50, 60}, actsOfBytes(p)
		play(t, ids, acts, 0)
		play(t, ids, acts, 3)
		followAll(t, ids, acts)
	})
}

// listsOfBytes are locks and leases whose numbers are little, so that they fit one another now and then.
func listsOfBytes(p []byte) ([]api.Lock, []api.Lease) {
	next := func() int {
		if len(p) == 0 {
			return 0
		}
		n := int(int8(p[0]))
		p = p[1:]
		return n
	}
	row := func() []int {
		var l []int
		for range next() & 3 {
			l = append(l, next())
		}
		return l
	}
	var locks []api.Lock
	for range next() & 3 {
		locks = append(locks, at(next(), next(), row()...))
	}
	var leases []api.Lease
	for range next() & 3 {
		leases = append(leases, wants(next(), next(), row()...))
	}
	return locks, leases
}

func FuzzLoad(f *testing.F) {
	f.Add([]byte{})
	f.Add([]byte{2, 1, 5, 1, 7, 2, 0, 1, 5, 2, 5, 1, 2, 1, 2, 7, 0, 1, 1})
	f.Add([]byte{1, 3, 0, 2, 9, 4, 2, 4, 0, 1, 3, 9, 0, 1, 3})
	f.Fuzz(func(t *testing.T, p []byte) {
		locks, leases := listsOfBytes(p)
		tryLoad(t, locks, leases)
	})
}
