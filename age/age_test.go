package age

import (
	"math"
	"slices"
	"testing"

	"tallyman/api"
)

const (
	least    = math.MinInt
	greatest = math.MaxInt
	// These stand here by the chapter's digits, not by api's names.
	fullPrio = 1_048_575
	lastTick = 2_147_483_647
	topRate  = 1_048_576
)

// Edges are numbers at both ends of what counts, at both ends of an int, and such as count as others if their upper bits are lost.

func prioEdges() []int {
	return []int{least, -1 << 32, -1<<32 + 5, -2, -1, 0, 1, 2, 5, 524_287, 524_288, fullPrio - 3, fullPrio - 2, fullPrio - 1, fullPrio, fullPrio + 1, fullPrio + 2,
		1 << 31, 1 << 32, 1<<32 + 5, greatest - 1, greatest}
}

func tickEdges() []int {
	return []int{least, -1 << 32, -1<<31 + 7, -1, 0, 1, 2, 9, 10, 1<<20 - 1, 1 << 20, 1 << 30, lastTick - fullPrio, lastTick - 2, lastTick - 1, lastTick, lastTick + 1, lastTick + 2,
		1 << 32, 1<<32 + 9, greatest - 1, greatest}
}

func rateEdges() []int {
	return []int{least, -1 << 32, -1<<32 + 3, -1, 0, 1, 2, 3, 1000, 524_288, topRate - 2, topRate - 1, topRate, topRate + 1, 1 << 31, 1 << 32, 1<<32 + 1, greatest - 1, greatest}
}

// seqEdges are any numbers, for seqs and IDs, whose differences leave an int.
func seqEdges() []int {
	return []int{least, least + 1, -1 << 32, -1, 0, 1, 2, 1 << 31, 1 << 32, 1<<32 + 1, greatest - 1, greatest}
}

func nearest(n, most int) int {
	if n < 0 {
		return 0
	}
	if n > most {
		return most
	}
	return n
}

// reckonedOf is Of by the chapter's words; no part is greater than 2^20 + 2^20 times 2^31.
func reckonedOf(x api.Item, now, rate int) int {
	waited := nearest(now, lastTick) - nearest(x.Since, lastTick)
	if waited < 0 {
		waited = 0
	}
	return nearest(nearest(x.Prio, fullPrio)+nearest(rate, topRate)*waited, fullPrio)
}

func reckonedAhead(a, b api.Item, now, rate int) bool {
	p, q := reckonedOf(a, now, rate), reckonedOf(b, now, rate)
	if p != q {
		return p > q
	}
	if a.Seq != b.Seq {
		return a.Seq < b.Seq
	}
	return a.ID < b.ID
}

// reckonedSort gives each item the place of as many as are ahead of it, or stand ahead of it and are as good.
func reckonedSort(l []api.Item, now, rate int) []int {
	ids := make([]int, len(l))
	for i, x := range l {
		n := 0
		for j, y := range l {
			if reckonedAhead(y, x, now, rate) || j < i && !reckonedAhead(x, y, now, rate) {
				n++
			}
		}
		ids[n] = x.ID
	}
	return ids
}

func wantOf(t *testing.T, x api.Item, now, rate, want int) {
	t.Helper()
	if got := Of(x, now, rate); got != want {
		t.Errorf("Of(%+v, %d, %d): %d, not %d", x, now, rate, got, want)
	}
}

func wantFull(t *testing.T, x api.Item, rate, want int) {
	t.Helper()
	if got := Full(x, rate); got != want {
		t.Errorf("Full(%+v, %d): %d, not %d", x, rate, got, want)
	}
}

// wantLeastFull asks that the item is full at the tick that is told, and not at the one ahead of it, of all from its Since to the last one.
func wantLeastFull(t *testing.T, x api.Item, rate int) {
	t.Helper()
	n, since := Full(x, rate), nearest(x.Since, lastTick)
	switch {
	case n < since || n > lastTick+1:
		t.Errorf("Full(%+v, %d): %d is out of all ticks", x, rate, n)
	case n <= lastTick && reckonedOf(x, n, rate) != fullPrio:
		t.Errorf("Full(%+v, %d): not at %d", x, rate, n)
	case n > since && reckonedOf(x, n-1, rate) == fullPrio:
		t.Errorf("Full(%+v, %d): %d, but at the tick ahead of it too", x, rate, n)
	}
}

func wantAhead(t *testing.T, a, b api.Item, now, rate int, want bool) {
	t.Helper()
	if got := Ahead(a, b, now, rate); got != want {
		t.Errorf("Ahead(%+v, %+v, %d, %d): %t, not %t", a, b, now, rate, got, want)
	}
}

// wantFirst asks for both ways: a is ahead of b, and b not of a.
func wantFirst(t *testing.T, a, b api.Item, now, rate int) {
	t.Helper()
	wantAhead(t, a, b, now, rate, true)
	wantAhead(t, b, a, now, rate, false)
}

func wantSort(t *testing.T, l []api.Item, now, rate int, want ...int) {
	t.Helper()
	if got := Sort(l, now, rate); !slices.Equal(got, want) {
		t.Errorf("Sort(%+v, %d, %d): %d, not %d", l, now, rate, got, want)
	}
}

func TestP1401Of(t *testing.T) {
	x := api.Item{ID: 1, Prio: 5, Since: 10, Seq: 3}
	wantOf(t, x, 10, 2, 5)
	wantOf(t, x, 11, 2, 7)
	wantOf(t, x, 13, 2, 11)
	wantOf(t, x, 13, 1, 8)
	wantOf(t, x, 13, 0, 5)
	wantOf(t, x, 13, -1, 5)
	wantOf(t, x, 13, least, 5)
	// Ahead of its Since an item has not waited.
	wantOf(t, x, 9, 2, 5)
	wantOf(t, x, 0, 2, 5)
	wantOf(t, x, -7, 2, 5)
	wantOf(t, x, least, topRate, 5)
	// It stops at the greatest priority.
	wantOf(t, x, 10+fullPrio-5-1, 1, fullPrio-1)
	wantOf(t, x, 10+fullPrio-5, 1, fullPrio)
	wantOf(t, x, 10+fullPrio-5+1, 1, fullPrio)
	wantOf(t, x, lastTick, 1, fullPrio)
	wantOf(t, x, greatest, 1, fullPrio)
	wantOf(t, x, greatest, greatest, fullPrio)
	wantOf(t, x, 1<<40, 1, fullPrio)
	wantOf(t, x, greatest, 0, 5)
	wantOf(t, x, 11, fullPrio-6, fullPrio-1)
	wantOf(t, x, 11, fullPrio-5, fullPrio)
	wantOf(t, x, 11, greatest, fullPrio)
	wantOf(t, x, 10, greatest, 5)
	wantOf(t, api.Item{Prio: fullPrio - 1}, 0, 5, fullPrio-1)
	wantOf(t, api.Item{Prio: fullPrio - 1}, 1, 5, fullPrio)
	wantOf(t, api.Item{}, 0, 0, 0)
	wantOf(t, api.Item{}, 7, 6, 42)
}

func TestP1401OfCountsTheNearest(t *testing.T) {
	wantOf(t, api.Item{Prio: -1}, 0, 1, 0)
	wantOf(t, api.Item{Prio: -9}, 5, 1, 5)
	wantOf(t, api.Item{Prio: least}, 5, 2, 10)
	wantOf(t, api.Item{Prio: fullPrio}, 0, 0, fullPrio)
	wantOf(t, api.Item{Prio: fullPrio + 1}, 0, 0, fullPrio)
	wantOf(t, api.Item{Prio: greatest}, greatest, greatest, fullPrio)
	// A Since below 0 is no longer wait than since 0, nor a time beyond the last tick than till that.
	wantOf(t, api.Item{Since: -1}, 1, 3, 3)
	wantOf(t, api.Item{Since: least}, 2, 3, 6)
	wantOf(t, api.Item{Since: least}, least, 3, 0)
	wantOf(t, api.Item{Since: -9}, -1, 3, 0)
	wantOf(t, api.Item{Since: lastTick - 2}, lastTick, 3, 6)
	wantOf(t, api.Item{Since: lastTick - 2}, lastTick+1, 3, 6)
	wantOf(t, api.Item{Since: lastTick - 2}, greatest, 3, 6)
	wantOf(t, api.Item{Since: lastTick}, greatest, 3, 0)
	wantOf(t, api.Item{Since: lastTick + 1}, lastTick+2, 3, 0)
	wantOf(t, api.Item{Since: greatest - 1}, greatest, 3, 0)
	wantOf(t, api.Item{Since: greatest}, least, topRate, 0)
	wantOf(t, api.Item{Since: least}, greatest, 1, fullPrio)
}

// TestP1401OfGoesTickByTick lets an item wait, and adds the rate at each tick.
func TestP1401OfGoesTickByTick(t *testing.T) {
	for _, rate := range []int{0, 1, 2, 3, 7, 1000, fullPrio - 1, fullPrio, topRate} {
		for _, prio := range []int{0, 1, 5, fullPrio - 20, fullPrio - 1, fullPrio} {
			for _, since := range []int{0, 1, 10, lastTick - 30, lastTick} {
				x := api.Item{ID: 4, Prio: prio, Since: since, Seq: 5}
				aged := prio
				for now := since; now <= lastTick && now < since+60; now++ {
					wantOf(t, x, now, rate, aged)
					aged = min(aged+rate, fullPrio)
				}
			}
		}
	}
}

func TestP1401AsReckoned(t *testing.T) {
	for _, prio := range prioEdges() {
		for _, since := range tickEdges() {
			x := api.Item{ID: 7, Prio: prio, Since: since, Seq: -7}
			for _, rate := range rateEdges() {
				wantLeastFull(t, x, rate)
				for _, now := range tickEdges() {
					wantOf(t, x, now, rate, reckonedOf(x, now, rate))
				}
			}
		}
	}
}

func TestP1401Full(t *testing.T) {
	wantFull(t, api.Item{Prio: fullPrio - 5, Since: 4}, 2, 7)
	wantFull(t, api.Item{Prio: fullPrio - 6, Since: 4}, 2, 7)
	wantFull(t, api.Item{Prio: fullPrio - 7, Since: 4}, 2, 8)
	wantFull(t, api.Item{Prio: fullPrio - 1, Since: 4}, 2, 5)
	wantFull(t, api.Item{Prio: fullPrio - 1, Since: 4}, 1, 5)
	wantFull(t, api.Item{}, 1, fullPrio)
	wantFull(t, api.Item{}, 2, fullPrio/2+1)
	wantFull(t, api.Item{}, fullPrio-1, 2)
	wantFull(t, api.Item{}, fullPrio, 1)
	wantFull(t, api.Item{}, topRate, 1)
	wantFull(t, api.Item{}, topRate+1, 1)
	wantFull(t, api.Item{}, greatest, 1)
	// Who is full from the beginning is so since it waits, by whatever rate.
	for _, rate := range rateEdges() {
		wantFull(t, api.Item{Prio: fullPrio}, rate, 0)
		wantFull(t, api.Item{Prio: fullPrio, Since: 9}, rate, 9)
		wantFull(t, api.Item{Prio: fullPrio, Since: -9}, rate, 0)
		wantFull(t, api.Item{Prio: fullPrio + 1, Since: 9}, rate, 9)
		wantFull(t, api.Item{Prio: greatest, Since: lastTick}, rate, lastTick)
		wantFull(t, api.Item{Prio: greatest, Since: lastTick + 1}, rate, lastTick)
		wantFull(t, api.Item{Prio: greatest, Since: greatest}, rate, lastTick)
		wantFull(t, api.Item{Prio: greatest, Since: least}, rate, 0)
	}
}

func TestP1401FullOfNever(t *testing.T) {
	// By no rate nobody ages.
	for _, rate := range []int{0, -1, -5, least} {
		for _, since := range tickEdges() {
			wantFull(t, api.Item{Prio: fullPrio - 1, Since: since}, rate, lastTick+1)
			wantFull(t, api.Item{Since: since}, rate, lastTick+1)
			wantFull(t, api.Item{Prio: least, Since: since}, rate, lastTick+1)
		}
	}
	// Nor is there time enough just ahead of the last tick.
	wantFull(t, api.Item{Since: lastTick - fullPrio - 1}, 1, lastTick-1)
	wantFull(t, api.Item{Since: lastTick - fullPrio}, 1, lastTick)
	wantFull(t, api.Item{Since: lastTick - fullPrio + 1}, 1, lastTick+1)
	wantFull(t, api.Item{Since: lastTick - fullPrio + 2}, 1, lastTick+1)
	wantFull(t, api.Item{Since: lastTick - 1}, topRate, lastTick)
	wantFull(t, api.Item{Since: lastTick}, topRate, lastTick+1)
	wantFull(t, api.Item{Since: lastTick + 1}, topRate, lastTick+1)
	wantFull(t, api.Item{Since: greatest, Prio: fullPrio - 1}, greatest, lastTick+1)
	wantFull(t, api.Item{Since: lastTick, Prio: -1}, 1, lastTick+1)
}

// TestP1401FullGoesTickByTick waits till an item is full.
func TestP1401FullGoesTickByTick(t *testing.T) {
	for missing := range 60 {
		for rate := 1; rate < 70; rate++ {
			for _, since := range []int{0, 3, lastTick - 70, lastTick - 1, lastTick} {
				x := api.Item{Prio: fullPrio - missing, Since: since}
				n := since
				for n <= lastTick && reckonedOf(x, n, rate) < fullPrio {
					n++
				}
				wantFull(t, x, rate, n)
			}
		}
	}
}

// TestP1401AsksForNoNumber: an item's ID and Seq are nothing to its age.
func TestP1401AsksForNoNumber(t *testing.T) {
	for _, id := range seqEdges() {
		for _, seq := range seqEdges() {
			x := api.Item{ID: id, Prio: 5, Since: 10, Seq: seq}
			wantOf(t, x, 13, 2, 11)
			wantFull(t, x, 2, 10+(fullPrio-5)/2)
		}
	}
}

func TestP1402Ahead(t *testing.T) {
	x := api.Item{ID: 1, Prio: 5, Since: 10, Seq: 3}
	y := api.Item{ID: 2, Prio: 9, Since: 12, Seq: 1}
	wantFirst(t, y, x, 0, 2)
	wantFirst(t, y, x, 10, 2)
	wantFirst(t, y, x, 11, 2)
	// Both are 9 at 12 by the rate 2, and the seq tells.
	wantFirst(t, y, x, 12, 2)
	wantFirst(t, y, x, 1000, 2)
	wantFirst(t, x, y, 12, 3)
	wantFirst(t, y, x, 11, 3)
	wantFirst(t, y, x, greatest, 0)
	// Both are full.
	wantFirst(t, y, x, greatest, 3)
	// Nobody is ahead of one like itself.
	wantAhead(t, x, x, 12, 2, false)
	wantAhead(t, api.Item{}, api.Item{}, 0, 0, false)
	wantAhead(t, api.Item{ID: 4, Prio: 2, Since: 1}, api.Item{ID: 4, Since: 0}, 1, 2, false)
	wantAhead(t, api.Item{ID: 4, Since: 0}, api.Item{ID: 4, Prio: 2, Since: 1}, 1, 2, false)
}

// TestP1402AheadAsksInOrder: a greater aged priority is ahead even of a lesser seq and ID, and a lesser seq of a lesser ID.
func TestP1402AheadAsksInOrder(t *testing.T) {
	wantFirst(t, api.Item{ID: 9, Prio: 6, Seq: 9}, api.Item{ID: 1, Prio: 5, Seq: 1}, 0, 0)
	wantFirst(t, api.Item{ID: 9, Prio: 5, Seq: 1}, api.Item{ID: 1, Prio: 5, Seq: 2}, 0, 0)
	wantFirst(t, api.Item{ID: 1, Prio: 5, Seq: 2}, api.Item{ID: 9, Prio: 5, Seq: 2}, 0, 0)
	// It is the aged priority that tells, not the first one, nor since when.
	wantFirst(t, api.Item{ID: 9, Prio: 1, Since: 0, Seq: 9}, api.Item{ID: 1, Prio: 9, Since: 20, Seq: 1}, 20, 1)
	wantFirst(t, api.Item{ID: 1, Prio: 9, Since: 20, Seq: 1}, api.Item{ID: 9, Prio: 1, Since: 0, Seq: 9}, 8, 1)
	wantFirst(t, api.Item{ID: 9, Prio: 7, Since: 3, Seq: 1}, api.Item{ID: 1, Prio: 1, Since: 0, Seq: 2}, 5, 2)
	// As high as the highest is no higher, if more was put together; nor is what counts as the same.
	wantFirst(t, api.Item{ID: 2, Prio: fullPrio, Since: 5, Seq: 1}, api.Item{ID: 1, Prio: fullPrio, Since: 0, Seq: 2}, 9, 3)
	wantFirst(t, api.Item{ID: 2, Prio: fullPrio, Seq: 1}, api.Item{ID: 1, Prio: greatest, Seq: 2}, 0, 0)
	wantFirst(t, api.Item{ID: 2, Prio: least, Seq: 1}, api.Item{ID: 1, Prio: 0, Seq: 2}, 0, 0)
	wantFirst(t, api.Item{ID: 2, Since: 0, Seq: 1}, api.Item{ID: 1, Since: least, Seq: 2}, 9, 3)
	wantFirst(t, api.Item{ID: 2, Since: greatest, Seq: 1}, api.Item{ID: 1, Since: lastTick, Seq: 2}, greatest, 3)
}

// TestP1402AheadAtBothEnds: seqs and IDs count as they are, also where their difference leaves an int.
func TestP1402AheadAtBothEnds(t *testing.T) {
	for _, m := range seqEdges() {
		for _, n := range seqEdges() {
			wantAhead(t, api.Item{ID: 1, Seq: m}, api.Item{ID: 1, Seq: n}, 5, 1, m < n)
			wantAhead(t, api.Item{ID: 2, Seq: m}, api.Item{ID: 1, Seq: n}, 5, 1, m < n)
			wantAhead(t, api.Item{ID: 1, Seq: m}, api.Item{ID: 2, Seq: n}, 5, 1, m <= n)
			wantAhead(t, api.Item{ID: m, Seq: 3}, api.Item{ID: n, Seq: 3}, 5, 1, m < n)
			wantAhead(t, api.Item{ID: m, Seq: 3, Prio: 1}, api.Item{ID: n, Seq: 3, Since: 4}, 5, 1, true)
		}
	}
}

// A clock is a time and a rate.
type clock struct{ now, rate int }

func someClocks() []clock {
	return []clock{{0, 0}, {0, 1}, {2, 1}, {3, 1}, {3, 2}, {7, 0}, {7, fullPrio}, {-5, 3}, {3, -1}, {1000, 1000}, {lastTick, 1}, {greatest, greatest}, {least, least}}
}

// someItems differ in each of their numbers, and some of them in none that counts.
func someItems() []api.Item {
	var l []api.Item
	for _, prio := range []int{-1, 0, 1, 4, fullPrio - 2, fullPrio, greatest} {
		for _, since := range []int{least, 0, 2, 3, lastTick - 1, greatest} {
			for _, seq := range []int{least, 0, 1, greatest} {
				for _, id := range []int{least, 0, 1} {
					l = append(l, api.Item{ID: id, Prio: prio, Since: since, Seq: seq})
				}
			}
		}
	}
	return l
}

func TestP1402AheadAsReckoned(t *testing.T) {
	for _, c := range someClocks() {
		for i, a := range someItems() {
			for j, b := range someItems() {
				// Any two are held against each other by some clock, and all by a few.
				if (i+j)%3 == 0 || c.now == 3 {
					wantAhead(t, a, b, c.now, c.rate, reckonedAhead(a, b, c.now, c.rate))
				}
			}
		}
	}
}

func TestP1402Sort(t *testing.T) {
	x := api.Item{ID: 1, Prio: 5, Since: 10, Seq: 3}
	y := api.Item{ID: 2, Prio: 9, Since: 12, Seq: 1}
	z := api.Item{ID: 3, Prio: 9, Since: 12, Seq: 2}
	wantSort(t, nil, 12, 2)
	wantSort(t, []api.Item{}, 12, 2)
	wantSort(t, []api.Item{x}, 12, 2, 1)
	wantSort(t, []api.Item{{}}, 0, 0, 0)
	wantSort(t, []api.Item{x, y}, 12, 2, 2, 1)
	wantSort(t, []api.Item{y, x}, 12, 2, 2, 1)
	wantSort(t, []api.Item{x, y}, 12, 3, 1, 2)
	wantSort(t, []api.Item{y, x}, 12, 3, 1, 2)
	wantSort(t, []api.Item{x, z, y}, 12, 2, 2, 3, 1)
	wantSort(t, []api.Item{z, y, x}, 12, 3, 1, 2, 3)
	wantSort(t, []api.Item{z, y, x}, 0, 3, 2, 3, 1)
	// None is left out, though it is there twice, or has an ID that another one has.
	wantSort(t, []api.Item{y, x, y, x, x}, 12, 3, 1, 1, 1, 2, 2)
	wantSort(t, []api.Item{{ID: 5, Seq: 3}, {ID: 6, Seq: 2}, {ID: 5, Seq: 1}}, 0, 0, 5, 6, 5)
	wantSort(t, []api.Item{{ID: 2}, {ID: -1}, {ID: greatest}, {ID: least}, {ID: 2}}, 0, 0, least, -1, 2, 2, greatest)
}

// listsOf tells all lists of up to so many of the items.
func listsOf(items []api.Item, most int, tell func(l []api.Item)) {
	var behind func(l []api.Item)
	behind = func(l []api.Item) {
		tell(l)
		for _, x := range items {
			if len(l) < most {
				behind(append(slices.Clone(l), x))
			}
		}
	}
	behind(nil)
}

func TestP1402SortOfAllShortLists(t *testing.T) {
	few := []api.Item{
		{ID: 1, Prio: 1}, {ID: 2, Prio: 2, Since: 1}, {ID: 3, Prio: 1, Seq: 1}, {ID: 4, Prio: 1},
		{ID: 1, Prio: 3, Since: 2, Seq: -1}, {ID: 6, Prio: fullPrio, Seq: 4}, {ID: 7, Prio: fullPrio - 1, Seq: 2},
	}
	listsOf(few, 5, func(l []api.Item) {
		for _, c := range []clock{{0, 0}, {2, 1}, {3, 2}} {
			if len(l) < 5 || c.now == 2 {
				wantSort(t, l, c.now, c.rate, reckonedSort(l, c.now, c.rate)...)
			}
		}
	})
}

// manyItems are mixed ones, of which many are as good as others.
func manyItems(many int, seed uint32) []api.Item {
	var l []api.Item
	w := seed
	for range many {
		w = w*1664525 + 1013904223
		m := int(w>>9 ^ w>>21)
		l = append(l, api.Item{ID: m%97 - 9, Prio: fullPrio - 40 + m/97%50, Since: m/977%31 - 2, Seq: m/37%19 - 3})
	}
	return l
}

func TestP1402SortOfLongLists(t *testing.T) {
	for seed := range uint32(40) {
		l := manyItems(3+int(seed)*7, seed)
		for _, c := range someClocks() {
			wantSort(t, l, c.now, c.rate, reckonedSort(l, c.now, c.rate)...)
		}
	}
}

// TestP1402SortOfManyItems asks that each one is there once, and behind none that it is ahead of.
func TestP1402SortOfManyItems(t *testing.T) {
	const many = 100_003
	l := make([]api.Item, many)
	for i := range l {
		l[i] = api.Item{ID: i, Prio: i * 7919 % 1009, Since: i * 31 % 503, Seq: i * 17 % 11}
	}
	ids := Sort(l, 400, 3)
	if len(ids) != many {
		t.Fatalf("Sort of %d: %d", many, len(ids))
	}
	for i := 1; i < many; i++ {
		if a, b := l[ids[i-1]], l[ids[i]]; !reckonedAhead(a, b, 400, 3) {
			t.Fatalf("%+v stands ahead of %+v", a, b)
		}
	}
}

// TestP1402SortLeavesItsItems, those in the spare room too; and what it told stays, whatever becomes of them.
func TestP1402SortLeavesItsItems(t *testing.T) {
	room := manyItems(12, 5)
	before := slices.Clone(room)
	for n := range len(room) + 1 {
		told := Sort(room[:n], 20, 1)
		if !slices.Equal(room, before) {
			t.Fatalf("Sort changed %d of %+v into %+v", n, before, room)
		}
		kept := slices.Clone(told)
		Sort(room, 1, 0)
		for i := range n {
			room[i].ID = 1000
		}
		if !slices.Equal(told, kept) {
			t.Fatalf("Sort told %d, and that became %d", kept, told)
		}
		copy(room, before)
	}
}

func TestP1403AgedPrioritiesDoNotFall(t *testing.T) {
	nows, rates := slices.Sorted(slices.Values(tickEdges())), slices.Sorted(slices.Values(rateEdges()))
	for _, prio := range prioEdges() {
		for _, since := range tickEdges() {
			x := api.Item{ID: 1, Prio: prio, Since: since}
			for _, rate := range rates {
				last := nearest(prio, fullPrio)
				for _, now := range nows {
					aged := Of(x, now, rate)
					if aged < last || aged > fullPrio {
						t.Errorf("Of(%+v, %d, %d): %d, and %d ahead of that", x, now, rate, aged, last)
					}
					last = aged
				}
			}
		}
	}
}

func TestP1403FullTellsFromWhenOn(t *testing.T) {
	for _, prio := range prioEdges() {
		for _, since := range tickEdges() {
			x := api.Item{ID: 1, Prio: prio, Since: since}
			for _, rate := range rateEdges() {
				full := Full(x, rate)
				for _, now := range append(tickEdges(), full-1, full, full+1) {
					at := nearest(now, lastTick)
					if at < nearest(since, lastTick) {
						continue
					}
					if got, want := Of(x, now, rate) == fullPrio, at >= full; got != want {
						t.Errorf("Of(%+v, %d, %d) is full: %t, but Full tells %d", x, now, rate, got, full)
					}
				}
			}
		}
	}
}

// nearlyFull are items that get full within some ticks, or will not.
func nearlyFull() []api.Item {
	var l []api.Item
	for _, missing := range []int{-1, 0, 1, 2, 3, 5, 8, 1000, fullPrio, fullPrio + 7} {
		for _, since := range []int{-2, 0, 1, 2, 3} {
			for _, seq := range []int{1, 2} {
				l = append(l, api.Item{ID: 1 + (missing+since+seq)&1, Prio: fullPrio - missing, Since: since, Seq: seq})
			}
		}
	}
	return l
}

// TestP1403WhoIsAheadStaysAhead, as long as the other one is not full.
func TestP1403WhoIsAheadStaysAhead(t *testing.T) {
	const now = 3
	stayed, overtaken := 0, 0
	for _, a := range nearlyFull() {
		for _, b := range nearlyFull() {
			for _, rate := range []int{-1, 0, 1, 2, 3, 7} {
				for _, later := range []int{4, 5, 6, 7, 8, 9, 10, 11, 12, 100, 1 << 20, greatest} {
					if !Ahead(a, b, now, rate) {
						continue
					}
					still := Ahead(a, b, later, rate)
					switch {
					case Of(b, later, rate) == fullPrio && !still:
						overtaken++
					case Of(b, later, rate) < fullPrio && !still:
						t.Errorf("%+v is ahead of %+v at %d, but not at %d, by %d", a, b, now, later, rate)
					default:
						stayed++
					}
				}
			}
		}
	}
	if stayed == 0 || overtaken == 0 {
		t.Errorf("%d stayed ahead, %d were overtaken: the items do not tell", stayed, overtaken)
	}
}

// TestP1403OfTwoThatAreFull the one of the lesser seq is ahead, for good.
func TestP1403OfTwoThatAreFull(t *testing.T) {
	asked := 0
	for _, a := range nearlyFull() {
		for _, b := range nearlyFull() {
			for _, rate := range []int{0, 1, 2, 3, 7, topRate} {
				full := max(Full(a, rate), Full(b, rate))
				if full > lastTick || a.Seq == b.Seq {
					continue
				}
				asked++
				for _, now := range []int{full, full + 1, full + 2, full + 5, full + 1000, lastTick - 1, lastTick, lastTick + 1, greatest} {
					wantAhead(t, a, b, now, rate, a.Seq < b.Seq)
				}
			}
		}
	}
	if asked == 0 {
		t.Error("no two items came to be full")
	}
}

// TestP1403NobodyIsInARing: of any two that differ one is ahead, and who is ahead of one is ahead of those behind it.
func TestP1403NobodyIsInARing(t *testing.T) {
	l := manyItems(40, 3)
	for _, c := range someClocks() {
		for _, a := range l {
			for _, b := range l {
				ahead, behind := Ahead(a, b, c.now, c.rate), Ahead(b, a, c.now, c.rate)
				same := a.ID == b.ID && a.Seq == b.Seq && Of(a, c.now, c.rate) == Of(b, c.now, c.rate)
				if ahead && behind || same == (ahead || behind) {
					t.Errorf("%+v and %+v at %+v: ahead %t, behind %t", a, b, c, ahead, behind)
				}
				for _, x := range l {
					if ahead && Ahead(b, x, c.now, c.rate) && !Ahead(a, x, c.now, c.rate) {
						t.Errorf("%+v, %+v and %+v at %+v are in a ring", a, b, x, c)
					}
				}
			}
		}
	}
}

func TestExamplesOfTheChapter(t *testing.T) {
	wantOf(t, api.Item{Prio: 5, Since: 10}, 13, 2, 11)
}

func FuzzTwoItems(f *testing.F) {
	f.Add(5, 10, 3, 9, 12, 1, 12, 2)
	f.Add(fullPrio, lastTick, greatest, least, least, least, greatest, topRate)
	f.Add(greatest, greatest, 0, 0, -1, 0, lastTick+1, -1)
	f.Fuzz(func(t *testing.T, prio, since, seq, prio2, since2, seq2, now, rate int) {
		a := api.Item{ID: 1, Prio: prio, Since: since, Seq: seq}
		b := api.Item{ID: 2, Prio: prio2, Since: since2, Seq: seq2}
		wantOf(t, a, now, rate, reckonedOf(a, now, rate))
		wantLeastFull(t, a, rate)
		wantAhead(t, a, b, now, rate, reckonedAhead(a, b, now, rate))
		wantAhead(t, b, a, now, rate, reckonedAhead(b, a, now, rate))
		wantSort(t, []api.Item{b, a, b}, now, rate, reckonedSort([]api.Item{b, a, b}, now, rate)...)
	})
}
