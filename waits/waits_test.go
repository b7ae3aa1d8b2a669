package waits

import (
	"fmt"
	"math"
	"slices"
	"sync"
	"testing"

	"tallyman/aisles"
	"tallyman/api"
)

const (
	least    = math.MinInt
	greatest = math.MaxInt
)

func lock(id, holder int, wait ...int) api.Lock {
	return api.Lock{ID: id, Holder: holder, Wait: wait}
}

// lease has numbers also where none count.
func lease(token, got int, want ...int) api.Lease {
	return api.Lease{Token: token, Task: -3, Worker: 1 << 40, Unit: 0, Due: least, Got: got, Want: want}
}

// span are the numbers from one to another one.
func span(from, to int) []int {
	var l []int
	for n := from; n <= to; n++ {
		l = append(l, n)
	}
	return l
}

// sight is all that is told of leases and locks.
type sight struct {
	right  bool
	arcs   []api.Arc
	ring   bool
	chains [][]int
	ready  []int
}

func (s sight) String() string {
	return fmt.Sprintf("right %t, arcs %v, ring %t, chains %d, ready %d", s.right, s.arcs, s.ring, s.chains, s.ready)
}

func (s sight) is(o sight) bool {
	return s.right == o.right && s.ring == o.ring && slices.Equal(s.arcs, o.arcs) && slices.Equal(s.ready, o.ready) && slices.EqualFunc(s.chains, o.chains, slices.Equal)
}

func see(leases []api.Lease, locks []api.Lock, tokens []int) sight {
	s := sight{right: Right(leases, locks), arcs: Arcs(leases, locks), ring: Ring(leases, locks), ready: Ready(leases, locks)}
	for _, token := range tokens {
		s.chains = append(s.chains, Chain(leases, locks, token))
	}
	return s
}

// reckon tells the same by the chapter's words, with lists that are looked through each time.
func reckon(leases []api.Lease, locks []api.Lock, tokens []int) sight {
	s := sight{right: reckonRight(leases, locks), arcs: reckonArcs(leases, locks), ready: reckonReady(leases, locks)}
	s.ring = reckonRing(s.arcs)
	for _, token := range tokens {
		s.chains = append(s.chains, reckonChain(s.arcs, token))
	}
	return s
}

func full(l api.Lease) bool { return l.Got == len(l.Want) }

func waiting(l api.Lease) bool { return 0 <= l.Got && l.Got <= len(l.Want)-1 }

// firstLock tells the first of the locks with an ID.
func firstLock(locks []api.Lock, id int) (api.Lock, bool) {
	for _, k := range locks {
		if k.ID == id {
			return k, true
		}
	}
	return api.Lock{}, false
}

func rises(l []int) bool {
	for i := 1; i < len(l); i++ {
		if l[i] <= l[i-1] {
			return false
		}
	}
	return true
}

func count(l []int, n int) int {
	c := 0
	for _, m := range l {
		if m == n {
			c++
		}
	}
	return c
}

func reckonRight(leases []api.Lease, locks []api.Lock) bool {
	var ids, tokens []int
	for _, k := range locks {
		ids = append(ids, k.ID)
	}
	for _, l := range leases {
		tokens = append(tokens, l.Token)
		if l.Token < 1 || !rises(l.Want) || l.Got < 0 || l.Got > len(l.Want) {
			return false
		}
	}
	if !rises(ids) || !rises(tokens) {
		return false
	}
	for _, k := range locks {
		if k.Holder != 0 && !slices.ContainsFunc(leases, func(l api.Lease) bool {
			return l.Token == k.Holder && slices.Contains(l.Want[:l.Got], k.ID)
		}) {
			return false
		}
		for _, n := range k.Wait {
			if count(k.Wait, n) != 1 || !slices.ContainsFunc(leases, func(l api.Lease) bool {
				return l.Token == n && waiting(l) && l.Want[l.Got] == k.ID
			}) {
				return false
			}
		}
	}
	for _, l := range leases {
		for _, id := range l.Want[:l.Got] {
			if k, ok := firstLock(locks, id); !ok || k.Holder != l.Token {
				return false
			}
		}
		if waiting(l) {
			if k, ok := firstLock(locks, l.Want[l.Got]); !ok || !slices.Contains(k.Wait, l.Token) {
				return false
			}
		}
	}
	return true
}

func reckonArcs(leases []api.Lease, locks []api.Lock) []api.Arc {
	var arcs []api.Arc
	for _, l := range leases {
		if !waiting(l) {
			continue
		}
		if k, ok := firstLock(locks, l.Want[l.Got]); ok && k.Holder != 0 {
			arcs = append(arcs, api.Arc{From: l.Token, To: k.Holder})
		}
	}
	return arcs
}

func reckonReady(leases []api.Lease, locks []api.Lock) []int {
	var ready []int
	for _, l := range leases {
		if full(l) {
			ready = append(ready, l.Token)
		}
		if !waiting(l) {
			continue
		}
		if k, ok := firstLock(locks, l.Want[l.Got]); ok && k.Holder == 0 && len(k.Wait) > 0 && k.Wait[0] == l.Token {
			ready = append(ready, l.Token)
		}
	}
	return ready
}

// reckonRing goes along arcs from each number, and asks whether it comes back.
func reckonRing(arcs []api.Arc) bool {
	for _, first := range arcs {
		reached := []int{first.To}
		for i := 0; i < len(reached); i++ {
			for _, a := range arcs {
				if a.From == reached[i] && !slices.Contains(reached, a.To) {
					reached = append(reached, a.To)
				}
			}
		}
		if slices.Contains(reached, first.From) {
			return true
		}
	}
	return false
}

func reckonChain(arcs []api.Arc, token int) []int {
	chain := []int{token}
	for {
		i := slices.IndexFunc(arcs, func(a api.Arc) bool { return a.From == chain[len(chain)-1] })
		if i < 0 || slices.Contains(chain, arcs[i].To) {
			return chain
		}
		chain = append(chain, arcs[i].To)
	}
}

// compare asks that leases and locks are told of as they are reckoned, and that what is right keeps the laws.
func compare(t *testing.T, leases []api.Lease, locks []api.Lock, tokens []int) sight {
	t.Helper()
	got, want := see(leases, locks, tokens), reckon(leases, locks, tokens)
	if !got.is(want) {
		t.Errorf("%v, %v: %v, not %v", leases, locks, got, want)
	}
	if got.right {
		holdLaws(t, leases, locks)
	}
	return got
}

func wantRight(t *testing.T, what string, is bool, leases []api.Lease, locks []api.Lock) {
	t.Helper()
	if got := compare(t, leases, locks, nil); got.right != is {
		t.Errorf("%s: Right(%v, %v): %t, not %t", what, leases, locks, got.right, is)
	}
}

func wantArcs(t *testing.T, leases []api.Lease, locks []api.Lock, want ...api.Arc) {
	t.Helper()
	if got := Arcs(leases, locks); !slices.Equal(got, want) {
		t.Errorf("Arcs(%v, %v): %v, not %v", leases, locks, got, want)
	}
}

func wantRing(t *testing.T, is bool, leases []api.Lease, locks []api.Lock) {
	t.Helper()
	if got := Ring(leases, locks); got != is {
		t.Errorf("Ring(%v, %v): %t, not %t", leases, locks, got, is)
	}
}

func wantChain(t *testing.T, leases []api.Lease, locks []api.Lock, want ...int) {
	t.Helper()
	if got := Chain(leases, locks, want[0]); !slices.Equal(got, want) {
		t.Errorf("Chain(%v, %v, %d): %d, not %d", leases, locks, want[0], got, want)
	}
}

func wantReady(t *testing.T, leases []api.Lease, locks []api.Lock, want ...int) {
	t.Helper()
	if got := Ready(leases, locks); !slices.Equal(got, want) {
		t.Errorf("Ready(%v, %v): %d, not %d", leases, locks, got, want)
	}
}

// holdLaws asks of what is right what P2104 says.
func holdLaws(t *testing.T, leases []api.Lease, locks []api.Lock) {
	t.Helper()
	if Ring(leases, locks) {
		t.Errorf("%v, %v: right, and a ring", leases, locks)
	}
	if len(leases) > 0 && len(Ready(leases, locks)) == 0 {
		t.Errorf("%v, %v: right, and nobody is ready", leases, locks)
	}
	of := map[int]api.Lease{}
	for _, l := range leases {
		of[l.Token] = l
	}
	for _, l := range leases {
		var awaited []int
		for _, token := range Chain(leases, locks, l.Token) {
			if x := of[token]; waiting(x) {
				awaited = append(awaited, x.Want[x.Got])
			}
		}
		if !rises(awaited) {
			t.Errorf("%v, %v: right, and the chain of %d waits for %d", leases, locks, l.Token, awaited)
		}
	}
}

// some are leases and locks that are right: 5 waits for 6, 7 for 5, 8 and then 9 for a lock that is free; 10 has all, 11 wants nothing.
func some() ([]api.Lease, []api.Lock) {
	return []api.Lease{
		lease(5, 1, 1, 2, 9), lease(6, 1, 2), lease(7, 0, 1), lease(8, 0, 3), lease(9, 0, 3, 4), lease(10, 2, 4, 5), lease(11, 0),
	}, []api.Lock{
		lock(1, 5, 7), lock(2, 6, 5), lock(3, 0, 8, 9), lock(4, 10), lock(5, 10), lock(6, 0),
	}
}

func TestP2101Right(t *testing.T) {
	leases, locks := some()
	wantRight(t, "some", true, leases, locks)
	wantRight(t, "nothing", true, nil, nil)
	wantRight(t, "nothing, in lists without an element", true, []api.Lease{}, []api.Lock{})
	wantRight(t, "no lease", true, nil, []api.Lock{lock(1, 0), lock(2, 0)})
	wantRight(t, "no lock", true, []api.Lease{lease(1, 0), lease(2, 0)}, nil)
	wantRight(t, "wants that no lock has, behind the one awaited", true, []api.Lease{lease(1, 0, 4, 5, 6)}, []api.Lock{lock(4, 0, 1)})
	wantRight(t, "those that wait stand in any order", true, []api.Lease{lease(1, 0, 4), lease(2, 0, 4), lease(3, 0, 4)}, []api.Lock{lock(4, 0, 3, 1, 2)})
	wantRight(t, "who holds all, and who waits", true, []api.Lease{lease(1, 1, 4), lease(2, 0, 4)}, []api.Lock{lock(4, 1, 2)})
}

// TestP2101AnyNumbers: no limit is asked of IDs, nor of how many there are.
func TestP2101AnyNumbers(t *testing.T) {
	wantRight(t, "IDs of no aisle", true,
		[]api.Lease{lease(1, 2, least, -1, 0, 1000), lease(2, 0, 0, 1, greatest), lease(greatest, 1, greatest)},
		[]api.Lock{lock(least, 1), lock(-1, 1), lock(0, 0, 2, 1), lock(1000, 0), lock(greatest, greatest)})
	var leases []api.Lease
	var locks []api.Lock
	for n := 1; n <= 200; n++ {
		leases = append(leases, lease(n, 1, n, 1000))
		locks = append(locks, lock(n, n))
	}
	wantRight(t, "many of all", true, leases, append(locks, lock(1000, 0, span(1, 200)...)))
	wantRight(t, "many of all, but the last one waits not", false, leases, append(locks, lock(1000, 0, span(1, 199)...)))
}

func TestP2101AnyNumbersOfLeases(t *testing.T) {
	for _, n := range []int{1, 2, 64, 65, 1<<31 - 1, 1 << 31, 1 << 32, 1<<32 + 1, greatest} {
		wantRight(t, "any token from 1 on", true, []api.Lease{lease(n, 1, 7)}, []api.Lock{lock(7, n)})
		wantRight(t, "any token from 1 on", true, []api.Lease{lease(n, 0, 7)}, []api.Lock{lock(7, 0, n)})
	}
	for _, n := range []int{least, least + 1, -1 << 32, -1, 0} {
		wantRight(t, "no token", false, []api.Lease{lease(n, 1, 7)}, []api.Lock{lock(7, n)})
		wantRight(t, "no token", false, []api.Lease{lease(n, 0, 7)}, []api.Lock{lock(7, 0, n)})
		wantRight(t, "no token", false, []api.Lease{lease(n, 0)}, nil)
		wantRight(t, "no token behind one", false, []api.Lease{lease(1, 0), lease(n, 0)}, nil)
		wantRight(t, "no token ahead of one", false, []api.Lease{lease(n, 0), lease(1, 0)}, nil)
	}
}

// TestP2101Wrong: whatever is not so makes it wrong, though all else is so.
func TestP2101Wrong(t *testing.T) {
	for what, spoil := range map[string]func(a []api.Lease, b []api.Lock){
		"IDs fall":                       func(a []api.Lease, b []api.Lock) { b[0], b[1] = b[1], b[0] },
		"IDs fall at the end":            func(a []api.Lease, b []api.Lock) { b[4], b[5] = b[5], b[4] },
		"an ID twice":                    func(a []api.Lease, b []api.Lock) { b[5].ID = 5 },
		"tokens fall":                    func(a []api.Lease, b []api.Lock) { a[0], a[1] = a[1], a[0] },
		"tokens fall at the end":         func(a []api.Lease, b []api.Lock) { a[5], a[6] = a[6], a[5] },
		"a token twice":                  func(a []api.Lease, b []api.Lock) { a[6].Token = 10 },
		"a Want falls":                   func(a []api.Lease, b []api.Lock) { a[5].Want = []int{5, 4} },
		"a Want falls behind":            func(a []api.Lease, b []api.Lock) { a[0].Want = []int{1, 2, 9, 8} },
		"a Want has one twice":           func(a []api.Lease, b []api.Lock) { a[0].Want = []int{1, 2, 2} },
		"a Want has what is held twice":  func(a []api.Lease, b []api.Lock) { a[5].Want, a[5].Got = []int{4, 5, 5}, 3 },
		"a Got below 0":                  func(a []api.Lease, b []api.Lock) { a[6].Got = -1 },
		"a Got at the least":             func(a []api.Lease, b []api.Lock) { a[6].Got = least },
		"a Got of more than are wanted":  func(a []api.Lease, b []api.Lock) { a[6].Got = 1 },
		"a Got of one more":              func(a []api.Lease, b []api.Lock) { a[5].Got = 3 },
		"a Got at the greatest":          func(a []api.Lease, b []api.Lock) { a[5].Got = greatest },
		"held by nobody's token":         func(a []api.Lease, b []api.Lock) { b[5].Holder = 4 },
		"held below 0":                   func(a []api.Lease, b []api.Lock) { b[5].Holder = -1 },
		"held by who wants it not":       func(a []api.Lease, b []api.Lock) { b[5].Holder = 10 },
		"held by who wants nothing":      func(a []api.Lease, b []api.Lock) { b[5].Holder = 11 },
		"held by who waits for it":       func(a []api.Lease, b []api.Lock) { b[2].Holder = 8 },
		"held by who waits for another":  func(a []api.Lease, b []api.Lock) { b[5].Holder, a[0].Want = 5, []int{1, 2, 6} },
		"held by another one":            func(a []api.Lease, b []api.Lock) { b[3].Holder = 6 },
		"free, though it is held":        func(a []api.Lease, b []api.Lock) { b[4].Holder = 0 },
		"free, though the first is held": func(a []api.Lease, b []api.Lock) { b[3].Holder = 0 },
		"no lock for what is held":       func(a []api.Lease, b []api.Lock) { b[4].ID, b[5].ID = 6, 7 },
		"no lock for what is awaited":    func(a []api.Lease, b []api.Lock) { a[4].Want, b[2].Wait = []int{7}, []int{8} },
		"twice in a Wait":                func(a []api.Lease, b []api.Lock) { b[2].Wait = []int{8, 9, 8} },
		"twice one behind the other":     func(a []api.Lease, b []api.Lock) { b[2].Wait = []int{8, 8, 9} },
		"nobody's token in a Wait":       func(a []api.Lease, b []api.Lock) { b[2].Wait = []int{8, 9, 12} },
		"0 in a Wait":                    func(a []api.Lease, b []api.Lock) { b[2].Wait = []int{0, 8, 9} },
		"who is full in a Wait":          func(a []api.Lease, b []api.Lock) { b[2].Wait = []int{8, 9, 10} },
		"who wants nothing in a Wait":    func(a []api.Lease, b []api.Lock) { b[5].Wait = []int{11} },
		"who waits for another one":      func(a []api.Lease, b []api.Lock) { b[5].Wait = []int{8} },
		"who wants it later in a Wait":   func(a []api.Lease, b []api.Lock) { b[3].Wait = []int{9} },
		"the holder in its Wait":         func(a []api.Lease, b []api.Lock) { b[0].Wait = []int{7, 5} },
		"waits, but stands nowhere":      func(a []api.Lease, b []api.Lock) { b[2].Wait = []int{8} },
		"waits, but another one stands":  func(a []api.Lease, b []api.Lock) { b[2].Wait = nil },
		"waits, but stands elsewhere":    func(a []api.Lease, b []api.Lock) { b[2].Wait, b[5].Wait = []int{8}, []int{9} },
	} {
		leases, locks := some()
		spoil(leases, locks)
		wantRight(t, what, false, leases, locks)
	}
}

// TestP2101LastOfMany: what is wrong is found wherever it stands.
func TestP2101LastOfMany(t *testing.T) {
	for place := range 12 {
		var leases []api.Lease
		var locks []api.Lock
		for n := range 12 {
			leases = append(leases, lease(1+n, 1, 1+2*n, 2+2*n))
			locks = append(locks, lock(1+2*n, 1+n), lock(2+2*n, 0, 1+n))
		}
		wantRight(t, "as it was", true, leases, locks)
		locks[2*place].Holder = 0
		wantRight(t, "free", false, leases, locks)
		locks[2*place].Holder = 1 + (place+1)%12
		wantRight(t, "held by another one", false, leases, locks)
		locks[2*place].Holder = 1 + place
		locks[1+2*place].Wait = nil
		wantRight(t, "nobody waits", false, leases, locks)
		locks[1+2*place].Wait = []int{1 + place}
		leases[place].Got = 2
		wantRight(t, "more than is held", false, leases, locks)
		leases[place].Got = 0
		wantRight(t, "less than is held", false, leases, locks)
	}
}

func TestP2102Arcs(t *testing.T) {
	leases, locks := some()
	wantArcs(t, leases, locks, api.Arc{From: 5, To: 6}, api.Arc{From: 7, To: 5})
	wantArcs(t, nil, nil)
	wantArcs(t, leases, nil)
	wantArcs(t, nil, locks)
	slices.Reverse(leases)
	wantArcs(t, leases, locks, api.Arc{From: 7, To: 5}, api.Arc{From: 5, To: 6})
}

// TestP2102ArcsOfAny: of leases and locks that are not right too.
func TestP2102ArcsOfAny(t *testing.T) {
	free, held := lock(1, 0, 5), lock(1, 6)
	wantArcs(t, []api.Lease{lease(5, 0, 1)}, []api.Lock{held, free}, api.Arc{From: 5, To: 6})
	wantArcs(t, []api.Lease{lease(5, 0, 1)}, []api.Lock{free, held})
	wantArcs(t, []api.Lease{lease(5, 0, 1)}, []api.Lock{lock(2, 6)})
	wantArcs(t, []api.Lease{lease(5, 0, 1), lease(5, 0, 1)}, []api.Lock{held}, api.Arc{From: 5, To: 6}, api.Arc{From: 5, To: 6})
	wantArcs(t, []api.Lease{lease(6, 0, 1)}, []api.Lock{held}, api.Arc{From: 6, To: 6})
	wantArcs(t, []api.Lease{lease(0, 0, 1), lease(-4, 0, 1)}, []api.Lock{held}, api.Arc{From: 0, To: 6}, api.Arc{From: -4, To: 6})
	wantArcs(t, []api.Lease{lease(5, 0, 1)}, []api.Lock{lock(1, -6)}, api.Arc{From: 5, To: -6})
	wantArcs(t, []api.Lease{lease(greatest, 0, least)}, []api.Lock{lock(least, least)}, api.Arc{From: greatest, To: least})
	wantArcs(t, []api.Lease{lease(5, 1, 3, 1, 2)}, []api.Lock{lock(2, 7), held, lock(3, 8)}, api.Arc{From: 5, To: 6})
	for _, got := range []int{least, -1, 2, 3, greatest} {
		wantArcs(t, []api.Lease{lease(5, got, 1, 1)}, []api.Lock{held})
	}
	for _, got := range []int{0, 1} {
		wantArcs(t, []api.Lease{lease(5, got, 1, 1)}, []api.Lock{held}, api.Arc{From: 5, To: 6})
	}
}

// toOne are leases, each of which waits for the one lock that the next number holds.
func toOne(tokens ...int) ([]api.Lease, []api.Lock) {
	var leases []api.Lease
	var locks []api.Lock
	for i := range len(tokens) - 1 {
		leases = append(leases, lease(tokens[i], 0, i))
		locks = append(locks, lock(i, tokens[i+1]))
	}
	return leases, locks
}

func TestP2102Ring(t *testing.T) {
	for _, row := range []struct {
		tokens []int
		ring   bool
	}{
		{[]int{1}, false},
		{[]int{1, 2}, false},
		{[]int{1, 1}, true},
		{[]int{0, 7, 0}, false}, // a holder that is 0 is none
		{[]int{1, 2, 1}, true},
		{[]int{1, 2, 3, 4, 5}, false},
		{[]int{5, 4, 3, 2, 1}, false},
		{[]int{1, 2, 3, 4, 1}, true},
		{[]int{1, 2, 3, 4, 3}, true},
		{[]int{1, 2, 3, 4, 4}, true},
		{[]int{1, 2, 2, 3, 4}, true},
		{[]int{-1, least, greatest, -1}, true},
		{[]int{-1, least, greatest, -2}, false},
	} {
		leases, locks := toOne(row.tokens...)
		wantRing(t, row.ring, leases, locks)
		slices.Reverse(leases)
		wantRing(t, row.ring, leases, locks)
	}
}

// TestP2102RingOfSecond: a ring may lead through an arc that isn't the first one from a number, where no chain goes.
func TestP2102RingOfSecond(t *testing.T) {
	leases := []api.Lease{lease(1, 0, 1), lease(1, 0, 2), lease(2, 0, 3)}
	locks := []api.Lock{lock(1, 9), lock(2, 2), lock(3, 1)}
	wantRing(t, true, leases, locks)
	wantChain(t, leases, locks, 1, 9)
	wantChain(t, leases, locks, 2, 1, 9)
	leases[0], leases[1] = leases[1], leases[0]
	wantRing(t, true, leases, locks)
	wantChain(t, leases, locks, 1, 2)
	wantChain(t, leases, locks, 2, 1)
	// Two ways to one number are no ring.
	wantRing(t, false, []api.Lease{lease(1, 0, 1), lease(1, 0, 2), lease(2, 0, 3), lease(3, 0, 3)}, []api.Lock{lock(1, 2), lock(2, 3), lock(3, 4)})
}

func TestP2102Chain(t *testing.T) {
	leases, locks := some()
	wantChain(t, leases, locks, 5, 6)
	wantChain(t, leases, locks, 6)
	wantChain(t, leases, locks, 7, 5, 6)
	for _, alone := range []int{8, 9, 10, 11, 12, 0, -1, least, greatest} {
		wantChain(t, leases, locks, alone)
		wantChain(t, nil, nil, alone)
	}
	for _, row := range [][]int{{1, 2, 3, 4, 5}, {5, 4, 3, 2, 1}, {greatest, -1, least, 2}, {0, 1}} {
		leases, locks := toOne(row...)
		wantChain(t, leases, locks, row...)
		wantChain(t, leases, locks, row[1:]...)
		slices.Reverse(leases)
		wantChain(t, leases, locks, row...)
	}
}

// TestP2102ChainOfRing: a chain ends ahead of a number that is in it, be that its first one or not.
func TestP2102ChainOfRing(t *testing.T) {
	leases, locks := toOne(1, 2, 3, 1)
	wantChain(t, leases, locks, 1, 2, 3)
	wantChain(t, leases, locks, 2, 3, 1)
	wantChain(t, leases, locks, 3, 1, 2)
	leases, locks = toOne(1, 2, 3, 4, 3)
	wantChain(t, leases, locks, 1, 2, 3, 4)
	wantChain(t, leases, locks, 4, 3)
	leases, locks = toOne(1, 2, 2)
	wantChain(t, leases, locks, 1, 2)
	wantChain(t, leases, locks, 2)
	// The first arc leads back, so the second one isn't asked.
	leases, locks = toOne(1, 2, 1)
	wantChain(t, append(leases, lease(2, 0, 7)), append(locks, lock(7, 5)), 1, 2)
}

func TestP2103Ready(t *testing.T) {
	leases, locks := some()
	wantReady(t, leases, locks, 6, 8, 10, 11)
	wantReady(t, nil, nil)
	wantReady(t, nil, locks)
	wantReady(t, leases, nil, 6, 10, 11)
	slices.Reverse(leases)
	wantReady(t, leases, locks, 11, 10, 8, 6)
}

// TestP2103ReadyOfAny: of leases and locks that are not right too.
func TestP2103ReadyOfAny(t *testing.T) {
	waits := []api.Lease{lease(5, 0, 1)}
	wantReady(t, waits, []api.Lock{lock(1, 0, 5)}, 5)
	wantReady(t, waits, []api.Lock{lock(1, 0, 5, 5)}, 5)
	wantReady(t, waits, []api.Lock{lock(1, 0, 6, 5)})
	wantReady(t, waits, []api.Lock{lock(1, 0)})
	wantReady(t, waits, []api.Lock{lock(1, 6, 5)})
	wantReady(t, waits, []api.Lock{lock(1, 5, 5)})
	wantReady(t, waits, []api.Lock{lock(1, -1, 5)})
	wantReady(t, waits, []api.Lock{lock(2, 0, 5)})
	wantReady(t, waits, []api.Lock{lock(1, 0, 5), lock(1, 6)}, 5)
	wantReady(t, waits, []api.Lock{lock(1, 0, 6), lock(1, 0, 5)})
	wantReady(t, waits, []api.Lock{lock(1, 6), lock(1, 0, 5)})
	wantReady(t, []api.Lease{lease(5, 0, 1), lease(6, 0), lease(5, 0, 1), lease(5, 0)}, []api.Lock{lock(1, 0, 5)}, 5, 6, 5, 5)
	wantReady(t, []api.Lease{lease(0, 0, 1), lease(0, 0)}, []api.Lock{lock(1, 0)}, 0)
	wantReady(t, []api.Lease{lease(0, 0, 1)}, []api.Lock{lock(1, 0, 0)}, 0)
	wantReady(t, []api.Lease{lease(-5, 2, 2, 1)}, nil, -5)
	for _, got := range []int{least, -1, 3, 4, greatest} {
		wantReady(t, []api.Lease{lease(5, got, 1, 1)}, []api.Lock{lock(1, 0, 5)})
	}
	for _, got := range []int{0, 1, 2} {
		wantReady(t, []api.Lease{lease(5, got, 1, 1)}, []api.Lock{lock(1, 0, 5)}, 5)
	}
}

// littleLeases are the leases with a token out of a few, right ones and some wrong ones.
func littleLeases(tokens ...int) []api.Lease {
	var leases []api.Lease
	for _, token := range tokens {
		leases = append(leases, lease(token, 0), lease(token, 0, 1), lease(token, 1, 1), lease(token, 0, 2), lease(token, 1, 2),
			lease(token, 0, 1, 2), lease(token, 1, 1, 2), lease(token, 2, 1, 2), lease(token, -1, 1), lease(token, 2, 1), lease(token, 1, 2, 1))
	}
	return leases
}

func littleLocks() []api.Lock {
	var locks []api.Lock
	for id := 1; id <= 2; id++ {
		for holder := range 3 {
			for _, wait := range [][]int{nil, {1}, {2}, {1, 2}, {2, 1}} {
				locks = append(locks, lock(id, holder, wait...))
			}
		}
	}
	return locks
}

// upToTwo are all lists of no, one or two of some things.
func upToTwo[T any](l []T) [][]T {
	lists := [][]T{nil}
	for _, a := range l {
		lists = append(lists, []T{a})
		for _, b := range l {
			lists = append(lists, []T{a, b})
		}
	}
	return lists
}

// TestP2104AllLittleOnes: all lists of up to two leases and two locks, which are told of as they are reckoned, and keep the laws where they are right.
func TestP2104AllLittleOnes(t *testing.T) {
	lists := upToTwo(littleLocks())
	var mutex sync.Mutex
	var all sync.WaitGroup
	right, rings := 0, 0
	for _, leases := range upToTwo(littleLeases(1, 2)) {
		all.Go(func() {
			for _, locks := range lists {
				if s := compare(t, leases, locks, []int{1, 2}); s.right || s.ring {
					mutex.Lock()
					if s.right {
						right++
					} else {
						rings++
					}
					mutex.Unlock()
				}
			}
		})
	}
	all.Wait()
	if right < 50 || rings < 5000 {
		t.Errorf("%d are right, and %d have rings", right, rings)
	}
}

// chance is a row of numbers that look as if by chance, but are the same each time.
type chance uint32

func (c *chance) below(n int) int {
	*c = *c*1664525 + 1013904223
	return int(*c>>8) % n
}

// leasesOf are the leases of a table, whose wants are kept beside it.
func leasesOf(x *aisles.Table, wants map[int][]int) []api.Lease {
	var leases []api.Lease
	for _, token := range x.Tokens() {
		got, _, _ := x.Got(token)
		leases = append(leases, lease(token, got, wants[token]...))
	}
	return leases
}

// eachTable tells what a table has behind each of so many acts.
func eachTable(seed uint32, length, tokens int, ids []int, tell func(x *aisles.Table, leases []api.Lease)) {
	c := chance(seed)
	x, _ := aisles.New(ids)
	wants := map[int][]int{}
	for range length {
		token := 1 + c.below(tokens)
		switch c.below(5) {
		case 0:
			x.Leave(token)
		case 1, 2:
			x.Scan()
		default:
			var want []int
			for _, id := range ids {
				if c.below(3) == 0 {
					want = append(want, id)
				}
			}
			if x.Enter(token, want) == api.OK {
				wants[token] = want
			}
		}
		tell(x, leasesOf(x, wants))
	}
}

// TestP2104Tables: what a table has is right, keeps the laws, and its Scan grants the locks that are free to those of them that are ready and not full.
func TestP2104Tables(t *testing.T) {
	for seed := range uint32(40) {
		ids := []int{1, 2, 3, 500, 998, 999}
		eachTable(seed, 60, 10, ids[:1+seed%6], func(x *aisles.Table, leases []api.Lease) {
			locks := x.View()
			if s := compare(t, leases, locks, span(0, 11)); !s.right {
				t.Errorf("%v, %v: of a table, and not right", leases, locks)
			}
			ready := x.Full()
			for _, k := range locks {
				if k.Holder == 0 && len(k.Wait) > 0 {
					ready = append(ready, k.Wait[0])
				}
			}
			slices.Sort(ready)
			wantReady(t, leases, locks, ready...)
		})
	}
}

// TestP2104FullTable: a table with as many aisles and tokens as it may have.
func TestP2104FullTable(t *testing.T) {
	eachTable(7, 600, 90, span(968, 999), func(x *aisles.Table, leases []api.Lease) {
		if !Right(leases, x.View()) {
			t.Fatalf("%v, %v: of a table, and not right", leases, x.View())
		}
		holdLaws(t, leases, x.View())
	})
}

// spoil changes one number of leases or locks.
func spoil(c *chance, leases []api.Lease, locks []api.Lock) {
	n := c.below(12) - 1
	if c.below(2) == 0 && len(leases) > 0 {
		l := &leases[c.below(len(leases))]
		switch l.Want = slices.Clone(l.Want); c.below(3) {
		case 0:
			l.Token = n
		case 1:
			l.Got = n / 3
		default:
			if len(l.Want) > 0 {
				l.Want[c.below(len(l.Want))] = n
			}
		}
		return
	}
	k := &locks[c.below(len(locks))]
	switch k.Wait = slices.Clone(k.Wait); c.below(4) {
	case 0:
		k.ID = n
	case 1:
		k.Holder = n
	case 2:
		k.Wait = append(k.Wait, n)
	default:
		if len(k.Wait) > 0 {
			k.Wait[c.below(len(k.Wait))] = n
		}
	}
}

// TestP2104Spoilt: what a table has, with one number changed, and then another one: told of as it is reckoned, and right where a table can be loaded from it.
func TestP2104Spoilt(t *testing.T) {
	c := chance(99)
	right, wrong := 0, 0
	for seed := range uint32(60) {
		eachTable(seed, 40, 8, []int{1, 2, 3, 4, 5}, func(x *aisles.Table, leases []api.Lease) {
			locks := x.View()
			for range 3 {
				spoil(&c, leases, locks)
				s := compare(t, leases, locks, span(-1, 10))
				if s.right {
					right++
				} else {
					wrong++
				}
				if _, e := aisles.Load(locks, leases); withinTable(leases, locks) && s.right != (e == api.OK) {
					t.Errorf("%v, %v: right %t, and Load tells %d", leases, locks, s.right, e)
				}
			}
		})
	}
	if right < 100 || wrong < 1000 {
		t.Errorf("%d are right, and %d are wrong", right, wrong)
	}
}

// withinTable asks what a table asks beside what is right.
func withinTable(leases []api.Lease, locks []api.Lock) bool {
	for _, k := range locks {
		if k.ID < 1 || k.ID > 999 {
			return false
		}
	}
	for _, l := range leases {
		for _, id := range l.Want {
			if _, ok := firstLock(locks, id); !ok {
				return false
			}
		}
	}
	return true
}

// TestMixedOnes: lists that are seldom right, with numbers that come several times.
func TestMixedOnes(t *testing.T) {
	c := chance(5)
	row := func(many, from, to int) []int {
		var l []int
		for range c.below(many) {
			l = append(l, from+c.below(to-from+1))
		}
		return l
	}
	for range 20000 {
		var leases []api.Lease
		for range c.below(7) {
			leases = append(leases, lease(c.below(7)-1, c.below(6)-1, row(5, 0, 5)...))
		}
		var locks []api.Lock
		for range c.below(7) {
			locks = append(locks, lock(c.below(6), c.below(7)-1, row(4, -1, 6)...))
		}
		compare(t, leases, locks, span(-2, 7))
	}
}

// TestManyOfThem: a hundred thousand of all come to an end soon enough.
func TestManyOfThem(t *testing.T) {
	const many = 100000
	var leases []api.Lease
	var locks []api.Lock
	for n := 1; n <= many; n++ {
		leases = append(leases, lease(n, 1, n, n+1))
		locks = append(locks, lock(n, n, n-1))
	}
	locks[0].Wait = nil
	leases[many-1].Want = leases[many-1].Want[:1]
	if !Right(leases, locks) || Ring(leases, locks) || len(Arcs(leases, locks)) != many-1 {
		t.Errorf("a long row is wrong")
	}
	if chain := Chain(leases, locks, 1); !slices.Equal(chain, span(1, many)) {
		t.Errorf("a long chain of %d", len(chain))
	}
	wantReady(t, leases[many-2:], locks[many-2:], many)
	leases[many-1].Want = []int{many, 1}
	if Right(leases, locks) || !Ring(leases, locks) || len(Chain(leases, locks, 2)) != many {
		t.Errorf("a long ring is wrong")
	}
}

// TestManyAtOneLock: who waits, and who holds, is not looked for over and over.
func TestManyAtOneLock(t *testing.T) {
	const many = 100000
	leases := []api.Lease{lease(1, many, span(1, many)...)}
	var locks []api.Lock
	for n := 1; n <= many; n++ {
		leases = append(leases, lease(1+n, 0, 7))
		locks = append(locks, lock(n, 1))
	}
	locks[6].Wait = span(2, 1+many)
	if !Right(leases, locks) || Ring(leases, locks) || len(Arcs(leases, locks)) != many {
		t.Errorf("a star is wrong")
	}
	if ready := Ready(leases, locks); !slices.Equal(ready, []int{1}) {
		t.Errorf("a star has %d that are ready", len(ready))
	}
}

// TestArgumentsStay: nothing that is handed in is changed, spare room neither, and answers share nothing with one another.
func TestArgumentsStay(t *testing.T) {
	leases, locks := some()
	for i := range leases {
		leases[i].Want = append(slices.Clone(leases[i].Want), 77)[:len(leases[i].Want)]
	}
	for i := range locks {
		locks[i].Wait = append(slices.Clone(locks[i].Wait), 77)[:len(locks[i].Wait)]
	}
	before := fmt.Sprint(leases, locks)
	first := see(leases, locks, span(0, 12))
	told := first.String()
	if after := fmt.Sprint(leases, locks); after != before {
		t.Errorf("%s became %s", before, after)
	}
	for _, l := range leases {
		if spare := l.Want[:len(l.Want)+1]; spare[len(spare)-1] != 77 {
			t.Errorf("spare room of %v has %d", l, spare)
		}
	}
	for _, k := range locks {
		if spare := k.Wait[:len(k.Wait)+1]; spare[len(spare)-1] != 77 {
			t.Errorf("spare room of %v has %d", k, spare)
		}
	}
	again := see(leases, locks, span(0, 12))
	for i := range again.arcs {
		again.arcs[i] = api.Arc{}
	}
	clear(again.ready)
	for _, chain := range again.chains {
		clear(chain)
	}
	if first.String() != told || see(leases, locks, span(0, 12)).String() != told {
		t.Errorf("%s became %s", told, first)
	}
}

func TestExamplesOfTheChapter(t *testing.T) {
	leases := []api.Lease{lease(5, 1, 1, 2), lease(6, 1, 2)}
	locks := []api.Lock{lock(1, 5), lock(2, 6, 5)}
	wantRight(t, "the example", true, leases, locks)
	wantArcs(t, leases, locks, api.Arc{From: 5, To: 6})
	wantReady(t, leases, locks, 6)
}

// listsOfBytes are leases and locks whose numbers are little, so that they fit one another now and then.
func listsOfBytes(p []byte) ([]api.Lease, []api.Lock) {
	next := func() int {
		if len(p) == 0 {
			return 0
		}
		n := int(int8(p[0]))
		p = p[1:]
		return n
	}
	row := func() []int {
		var l []int
		for range next() & 3 {
			l = append(l, next())
		}
		return l
	}
	var leases []api.Lease
	for range next() & 7 {
		leases = append(leases, lease(next(), next(), row()...))
	}
	var locks []api.Lock
	for range next() & 7 {
		locks = append(locks, lock(next(), next(), row()...))
	}
	return leases, locks
}

func FuzzWaits(f *testing.F) {
	f.Add([]byte{})
	f.Add([]byte{3, 5, 1, 2, 1, 2, 6, 1, 1, 2, 7, 0, 1, 1, 2, 1, 5, 1, 7, 2, 6, 1, 5})
	f.Add([]byte{2, 1, 0, 1, 2, 2, 0, 1, 1, 2, 1, 1, 0, 2, 2, 0})
	f.Fuzz(func(t *testing.T, p []byte) {
		leases, locks := listsOfBytes(p)
		compare(t, leases, locks, span(-1, 9))
	})
}
