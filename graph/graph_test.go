package graph

import (
	"fmt"
	"math"
	"slices"
	"testing"

	"tallyman/api"
)

const (
	least    = math.MinInt
	greatest = math.MaxInt
	many     = 100_003
)

// edges are numbers whose differences leave an int, and such as an int of fewer bits takes for one another.
func edges() []int {
	return []int{least, least + 1, -1 << 32, -1, 0, 1, 2, 1 << 32, 1<<32 + 1, greatest - 1, greatest}
}

// drawing is a graph by the chapter's words: nodes that rise, and arrows in a row, looked through each time.
type drawing struct {
	nodes  []int
	arrows []api.Arc
}

func draw(ids []int, arcs []api.Arc) drawing {
	var d drawing
	for _, id := range ids {
		if !slices.Contains(d.nodes, id) {
			d.nodes = append(d.nodes, id)
		}
	}
	slices.Sort(d.nodes)
	for _, a := range arcs {
		if slices.Contains(d.nodes, a.From) && slices.Contains(d.nodes, a.To) {
			d.arrows = append(d.arrows, a)
		}
	}
	return d
}

func (d drawing) order() []int {
	var told []int
	for {
		at := slices.IndexFunc(d.nodes, func(node int) bool {
			return !slices.Contains(told, node) && !slices.ContainsFunc(d.arrows, func(a api.Arc) bool {
				return a.To == node && !slices.Contains(told, a.From)
			})
		})
		if at < 0 {
			return told
		}
		told = append(told, d.nodes[at])
	}
}

func (d drawing) left() []int {
	told := d.order()
	return slices.DeleteFunc(slices.Clone(d.nodes), func(node int) bool { return slices.Contains(told, node) })
}

// reach adds what arrows lead to, till there is nothing to add.
func (d drawing) reach(from []int) []int {
	reached := slices.DeleteFunc(slices.Clone(d.nodes), func(node int) bool { return !slices.Contains(from, node) })
	for added := true; added; {
		added = false
		for _, a := range d.arrows {
			if slices.Contains(reached, a.From) && !slices.Contains(reached, a.To) {
				reached = append(reached, a.To)
				added = true
			}
		}
	}
	slices.Sort(reached)
	return reached
}

// most goes all ways back from a node to which no ring leads.
func (d drawing) most(node int) int {
	n := 0
	for _, a := range d.arrows {
		if a.To == node {
			n = max(n, d.most(a.From)+1)
		}
	}
	return n
}

func (d drawing) levels() []int {
	left := d.left()
	var l []int
	for _, node := range d.nodes {
		if slices.Contains(left, node) {
			l = append(l, -1)
		} else {
			l = append(l, d.most(node))
		}
	}
	return l
}

// ringed are the nodes to which a ring leads, where a ring is a way from a node back to it.
func (d drawing) ringed() []int {
	var inRing []int
	for _, node := range d.nodes {
		var heads []int
		for _, a := range d.arrows {
			if a.From == node {
				heads = append(heads, a.To)
			}
		}
		if slices.Contains(d.reach(heads), node) {
			inRing = append(inRing, node)
		}
	}
	return d.reach(inRing)
}

func wantOrder(t *testing.T, what string, ids []int, arcs []api.Arc, all bool, want ...int) {
	t.Helper()
	if l, ok := Order(ids, arcs); !slices.Equal(l, want) || ok != all {
		t.Fatalf("%s: Order(%d, %v): %d %t, not %d %t", what, ids, arcs, l, ok, want, all)
	}
}

func wantLeft(t *testing.T, what string, ids []int, arcs []api.Arc, want ...int) {
	t.Helper()
	if l := Left(ids, arcs); !slices.Equal(l, want) {
		t.Fatalf("%s: Left(%d, %v): %d, not %d", what, ids, arcs, l, want)
	}
}

func wantReach(t *testing.T, what string, ids []int, arcs []api.Arc, from []int, want ...int) {
	t.Helper()
	if l := Reach(ids, arcs, from); !slices.Equal(l, want) {
		t.Fatalf("%s: Reach(%d, %v, %d): %d, not %d", what, ids, arcs, from, l, want)
	}
}

func wantLevels(t *testing.T, what string, ids []int, arcs []api.Arc, want ...int) {
	t.Helper()
	if l := Levels(ids, arcs); !slices.Equal(l, want) {
		t.Fatalf("%s: Levels(%d, %v): %d, not %d", what, ids, arcs, l, want)
	}
}

// wantAlike asks all four calls what the chapter's words say.
func wantAlike(t *testing.T, what string, ids []int, arcs []api.Arc, froms ...[]int) {
	t.Helper()
	d := draw(ids, arcs)
	order := d.order()
	wantOrder(t, what, ids, arcs, len(order) == len(d.nodes), order...)
	wantLeft(t, what, ids, arcs, d.left()...)
	wantLevels(t, what, ids, arcs, d.levels()...)
	for _, from := range froms {
		wantReach(t, what, ids, arcs, from, d.reach(from)...)
	}
}

// ordersOf tells each order in which the numbers may come.
func ordersOf(numbers []int, tell func(l []int)) {
	l := slices.Clone(numbers)
	var from func(k int)
	from = func(k int) {
		if k == len(l) {
			tell(slices.Clone(l))
			return
		}
		for i := k; i < len(l); i++ {
			l[k], l[i] = l[i], l[k]
			from(k + 1)
			l[k], l[i] = l[i], l[k]
		}
	}
	from(0)
}

// partsOf are all lists that have some of the numbers.
func partsOf(numbers []int) [][]int {
	parts := [][]int{nil}
	for _, n := range numbers {
		for _, p := range parts {
			parts = append(parts, append(slices.Clone(p), n))
		}
	}
	return parts
}

// graphsOf tells each graph of these nodes: each arrow is there, or not.
func graphsOf(nodes []int, tell func(arcs []api.Arc)) {
	n := len(nodes)
	for bits := range 1 << (n * n) {
		var arcs []api.Arc
		for k := range n * n {
			if bits>>k&1 == 1 {
				arcs = append(arcs, api.Arc{From: nodes[k/n], To: nodes[k%n]})
			}
		}
		tell(arcs)
	}
}

// mixed is a list of ids, some of them twice, and arcs, some of them twice and some of no node, that hang on the seed.
func mixed(seed uint32, nodes, arrows int) ([]int, []api.Arc) {
	w := seed
	number := func(below int) int {
		w = w*1664525 + 1013904223
		return int(w>>9) % below
	}
	var ids []int
	for range nodes {
		ids = append(ids, number(nodes)*3-nodes)
	}
	var arcs []api.Arc
	for range arrows {
		a := api.Arc{From: ids[number(nodes)], To: ids[number(nodes)]}
		// A third of the graphs has arrows up, a third has arrows down (below), so that not all have rings.
		if seed%3 > 0 && a.From > a.To {
			a.From, a.To = a.To, a.From
		}
		switch number(12) {
		case 0:
			a.From++
		case 1:
			a.To--
		case 2:
			arcs = append(arcs, a)
		}
		arcs = append(arcs, a)
	}
	if seed%3 == 2 {
		for i := range arcs {
			arcs[i].From, arcs[i].To = arcs[i].To, arcs[i].From
		}
	}
	return ids, arcs
}

func TestP1601Order(t *testing.T) {
	for _, c := range []struct {
		what string
		ids  []int
		arcs []api.Arc
		want []int
		all  bool
	}{
		{"nothing", nil, nil, nil, true},
		{"no node", []int{}, []api.Arc{{From: 1, To: 2}, {From: 3, To: 3}}, nil, true},
		{"one node", []int{7}, nil, []int{7}, true},
		{"no arrow", []int{3, 1, 2}, nil, []int{1, 2, 3}, true},
		{"a node twice", []int{3, 1, 3, 1, 1}, nil, []int{1, 3}, true},
		{"an arrow down", []int{1, 2}, []api.Arc{{From: 2, To: 1}}, []int{2, 1}, true},
		{"an arrow up", []int{1, 2}, []api.Arc{{From: 1, To: 2}}, []int{1, 2}, true},
		{"what gets free is the least one", []int{1, 2, 3, 4}, []api.Arc{{From: 3, To: 1}}, []int{2, 3, 1, 4}, true},
		{"what gets free is not the least one", []int{1, 2, 3, 4}, []api.Arc{{From: 1, To: 4}}, []int{1, 2, 3, 4}, true},
		{"what waits for two", []int{1, 2, 3}, []api.Arc{{From: 3, To: 1}, {From: 2, To: 1}}, []int{2, 3, 1}, true},
		{"an arrow thrice", []int{1, 2, 3}, []api.Arc{{From: 3, To: 1}, {From: 3, To: 1}, {From: 3, To: 1}}, []int{2, 3, 1}, true},
		{"arcs of no node", []int{1, 2}, []api.Arc{{From: 3, To: 1}, {From: 2, To: 3}, {From: 3, To: 3}, {From: 4, To: 5}, {}}, []int{1, 2}, true},
		{"an arrow through no node", []int{1, 3}, []api.Arc{{From: 3, To: 2}, {From: 2, To: 1}}, []int{1, 3}, true},
		{"a ring of itself", []int{1, 2}, []api.Arc{{From: 1, To: 1}}, []int{2}, false},
		{"a ring of itself alone", []int{0}, []api.Arc{{}}, nil, false},
		{"a ring of two", []int{1, 2, 3}, []api.Arc{{From: 1, To: 2}, {From: 2, To: 1}}, []int{3}, false},
		{"behind a ring", []int{1, 2, 3}, []api.Arc{{From: 2, To: 3}, {From: 3, To: 2}, {From: 2, To: 1}}, nil, false},
		{"ahead of a ring", []int{1, 2, 3}, []api.Arc{{From: 3, To: 2}, {From: 2, To: 2}}, []int{1, 3}, false},
		{"least and greatest", []int{greatest, 0, least}, nil, []int{least, 0, greatest}, true},
		{"greatest to least", []int{least, -1, greatest}, []api.Arc{{From: greatest, To: least}}, []int{-1, greatest, least}, true},
		{"numbers that look alike", []int{1 << 32, 0, 1, 1<<32 + 1}, []api.Arc{{From: 1 << 32, To: 0}}, []int{1, 1 << 32, 0, 1<<32 + 1}, true},
	} {
		wantOrder(t, c.what, c.ids, c.arcs, c.all, c.want...)
	}
}

func TestP1601Left(t *testing.T) {
	for _, c := range []struct {
		what string
		ids  []int
		arcs []api.Arc
		want []int
	}{
		{"nothing", nil, nil, nil},
		{"no node", nil, []api.Arc{{From: 1, To: 1}}, nil},
		{"no arrow", []int{3, 1, 2}, nil, nil},
		{"a row", []int{3, 1, 2}, []api.Arc{{From: 3, To: 1}, {From: 1, To: 2}}, nil},
		{"a ring of itself", []int{3, 1, 2}, []api.Arc{{From: 2, To: 2}}, []int{2}},
		{"a ring of two, and behind it", []int{4, 3, 2, 1, 4, 2}, []api.Arc{{From: 4, To: 2}, {From: 2, To: 4}, {From: 2, To: 1}}, []int{1, 2, 4}},
		{"ahead of a ring", []int{1, 2}, []api.Arc{{From: 1, To: 2}, {From: 2, To: 2}}, []int{2}},
		{"between two rings", []int{1, 2, 3}, []api.Arc{{From: 1, To: 1}, {From: 1, To: 2}, {From: 2, To: 3}, {From: 3, To: 3}}, []int{1, 2, 3}},
		{"a ring through no node", []int{1, 3}, []api.Arc{{From: 3, To: 2}, {From: 2, To: 3}, {From: 3, To: 1}}, nil},
		{"least and greatest", []int{greatest, 0, least}, []api.Arc{{From: greatest, To: least}, {From: least, To: greatest}}, []int{least, greatest}},
	} {
		wantLeft(t, c.what, c.ids, c.arcs, c.want...)
	}
}

func TestP1602Reach(t *testing.T) {
	ids := []int{5, 1, 4, 2, 3, 6, 3}
	arcs := []api.Arc{{From: 1, To: 2}, {From: 2, To: 3}, {From: 3, To: 2}, {From: 4, To: 4}, {From: 6, To: 5}, {From: 6, To: 1}, {From: 5, To: 9}, {From: 9, To: 4}}
	for _, c := range []struct {
		what       string
		from, want []int
	}{
		{"none", nil, nil},
		{"an empty list", []int{}, nil},
		{"no node", []int{9, 0, -1, least, greatest, 1<<32 + 1}, nil},
		{"a row, up to a ring", []int{1}, []int{1, 2, 3}},
		{"a ring", []int{3}, []int{2, 3}},
		{"a ring of itself", []int{4}, []int{4}},
		{"an arc of no node", []int{5}, []int{5}},
		{"two ways", []int{6}, []int{1, 2, 3, 5, 6}},
		{"two, not in order", []int{5, 2}, []int{2, 3, 5}},
		{"one thrice, and no nodes", []int{9, 4, 9, 4, 4}, []int{4}},
		{"one behind the other", []int{2, 1}, []int{1, 2, 3}},
		{"all", []int{6, 5, 4, 3, 2, 1}, []int{1, 2, 3, 4, 5, 6}},
	} {
		wantReach(t, c.what, ids, arcs, c.from, c.want...)
	}
	wantReach(t, "no node at all", nil, arcs, []int{1, 2})
	wantReach(t, "no arrow", ids, nil, []int{6, 1}, 1, 6)
	wantReach(t, "both ends", []int{greatest, least}, []api.Arc{{From: greatest, To: least}}, []int{greatest}, least, greatest)
	wantReach(t, "both ends back", []int{greatest, least}, []api.Arc{{From: greatest, To: least}}, []int{least}, least)
}

func TestP1602Levels(t *testing.T) {
	for _, c := range []struct {
		what string
		ids  []int
		arcs []api.Arc
		want []int
	}{
		{"nothing", nil, nil, nil},
		{"no node", nil, []api.Arc{{From: 1, To: 2}}, nil},
		{"no arrow", []int{3, 1, 2, 1}, nil, []int{0, 0, 0}},
		{"a row", []int{1, 2, 3}, []api.Arc{{From: 3, To: 1}, {From: 1, To: 2}}, []int{1, 2, 0}},
		{"a short and a long way", []int{1, 2, 3, 4}, []api.Arc{{From: 1, To: 4}, {From: 1, To: 3}, {From: 3, To: 2}, {From: 2, To: 4}}, []int{0, 2, 1, 3}},
		{"the long way is told first", []int{1, 2, 3, 4}, []api.Arc{{From: 1, To: 2}, {From: 2, To: 4}, {From: 3, To: 4}}, []int{0, 1, 0, 2}},
		{"an arrow thrice", []int{1, 2}, []api.Arc{{From: 2, To: 1}, {From: 2, To: 1}, {From: 2, To: 1}}, []int{1, 0}},
		{"arcs of no node", []int{1, 2}, []api.Arc{{From: 3, To: 1}, {From: 1, To: 3}, {From: 3, To: 2}}, []int{0, 0}},
		{"a ring of itself", []int{1, 2}, []api.Arc{{From: 1, To: 1}}, []int{-1, 0}},
		{"ahead of a ring, in it, behind it", []int{1, 2, 3, 4}, []api.Arc{{From: 4, To: 3}, {From: 3, To: 2}, {From: 2, To: 3}, {From: 2, To: 1}}, []int{-1, -1, -1, 0}},
		{"behind both a row and a ring", []int{1, 2, 3}, []api.Arc{{From: 1, To: 3}, {From: 2, To: 2}, {From: 2, To: 3}}, []int{0, -1, -1}},
		{"both ends", []int{greatest, least, 0}, []api.Arc{{From: greatest, To: 0}, {From: 0, To: least}}, []int{2, 1, 0}},
	} {
		wantLevels(t, c.what, c.ids, c.arcs, c.want...)
	}
}

// TestP1602AllLittleGraphs, in whatever order their nodes and arrows come.
func TestP1602AllLittleGraphs(t *testing.T) {
	for _, nodes := range [][]int{{5}, {-3, 4}, {least, 0, greatest}} {
		froms := append(partsOf(nodes), []int{1, nodes[0], 2, nodes[0]})
		graphsOf(nodes, func(arcs []api.Arc) {
			ordersOf(nodes, func(ids []int) {
				wantAlike(t, "arrows in order", ids, arcs, froms...)
				back := slices.Clone(arcs)
				slices.Reverse(back)
				wantAlike(t, "arrows from the last one on", ids, back, froms...)
				wantAlike(t, "arrows and nodes twice", slices.Concat(ids, ids), slices.Concat(arcs, arcs), froms...)
			})
		})
	}
}

func TestP1602AllGraphsOfFour(t *testing.T) {
	nodes := []int{-1 << 32, 0, 1, 1 << 32}
	froms := [][]int{nodes[:1], nodes[1:2], nodes[2:3], nodes[3:]}
	graphsOf(nodes, func(arcs []api.Arc) {
		wantAlike(t, "four nodes", nodes, arcs, froms...)
	})
}

// TestP1602SomeAreNoNodes: each part of the nodes is a graph of its own.
func TestP1602SomeAreNoNodes(t *testing.T) {
	nodes := []int{1, 2, 3}
	graphsOf(nodes, func(arcs []api.Arc) {
		for _, ids := range partsOf(nodes) {
			wantAlike(t, "some of three", ids, arcs, nodes, []int{3, 9, 1})
		}
	})
}

func TestP1602TwoNodesAtTheEdges(t *testing.T) {
	for _, a := range edges() {
		for _, b := range edges() {
			for _, c := range edges() {
				wantAlike(t, "edges", []int{b, a}, []api.Arc{{From: a, To: b}, {From: b, To: c}}, []int{a, c}, []int{c, b})
				wantAlike(t, "edges", []int{c, a, b}, []api.Arc{{From: b, To: a}, {From: c, To: b}}, []int{a}, []int{b}, []int{c})
			}
		}
	}
}

func TestP1602MixedGraphs(t *testing.T) {
	for seed := range uint32(3000) {
		nodes := int(seed%14) + 1
		ids, arcs := mixed(seed, nodes, int(seed/14)%20)
		wantAlike(t, fmt.Sprintf("the seed %d", seed), ids, arcs, ids[:1], ids[nodes/2:], []int{ids[nodes-1], ids[0] + 1})
	}
}

// wantLaws asks P1603 of whatever the calls tell.
func wantLaws(t *testing.T, ids []int, arcs []api.Arc) {
	t.Helper()
	d := draw(ids, arcs)
	order, all := Order(ids, arcs)
	left, levels := Left(ids, arcs), Levels(ids, arcs)
	if all != (len(left) == 0) || len(order)+len(left) != len(d.nodes) || len(levels) != len(d.nodes) {
		t.Fatalf("%d %v: Order %d %t, Left %d, Levels %d", ids, arcs, order, all, left, levels)
	}
	for _, a := range d.arrows {
		if all && slices.Index(order, a.From) >= slices.Index(order, a.To) {
			t.Fatalf("%d %v: Order %d, and %v leads back", ids, arcs, order, a)
		}
		from, to := levels[slices.Index(d.nodes, a.From)], levels[slices.Index(d.nodes, a.To)]
		if !slices.Contains(left, a.From) && !slices.Contains(left, a.To) && from >= to {
			t.Fatalf("%d %v: Levels %d, and %v leads to no greater one", ids, arcs, levels, a)
		}
	}
	if ringed := d.ringed(); !slices.Equal(left, ringed) {
		t.Fatalf("%d %v: Left %d, but rings lead to %d", ids, arcs, left, ringed)
	}
	for _, node := range left {
		if !slices.ContainsFunc(d.arrows, func(a api.Arc) bool { return a.To == node && slices.Contains(left, a.From) }) {
			t.Fatalf("%d %v: Left %d, but nothing of these leads to %d", ids, arcs, left, node)
		}
	}
	for i, node := range d.nodes {
		if (levels[i] < 0) != slices.Contains(left, node) {
			t.Fatalf("%d %v: Left %d, Levels %d", ids, arcs, left, levels)
		}
	}
}

func TestP1603AllGraphsOfFour(t *testing.T) {
	nodes := []int{least, -1, 0, greatest}
	graphsOf(nodes, func(arcs []api.Arc) { wantLaws(t, nodes, arcs) })
}

func TestP1603MixedGraphs(t *testing.T) {
	for seed := range uint32(1500) {
		nodes := int(seed%40) + 1
		ids, arcs := mixed(seed, nodes, int(seed/40)*2)
		wantLaws(t, ids, arcs)
	}
}

// upTo are the numbers below n, in a row that does not rise.
func upTo(n int) []int {
	l := make([]int, n)
	for i := range l {
		l[i] = (i*7919 + 5) % n
	}
	return l
}

func TestP1603ALongRow(t *testing.T) {
	ids := upTo(many)
	var arcs []api.Arc
	for _, id := range ids {
		arcs = append(arcs, api.Arc{From: id, To: id - 1})
	}
	back, rising := make([]int, many), make([]int, many)
	for i := range many {
		back[i], rising[i] = many-1-i, i
	}
	order, all := Order(ids, arcs)
	if !all || !slices.Equal(order, back) {
		t.Errorf("Order tells all: %t, from %d", all, order[:9])
	}
	if l := Left(ids, arcs); len(l) > 0 {
		t.Errorf("Left: %d nodes", len(l))
	}
	if l := Levels(ids, arcs); !slices.Equal(l, back) {
		t.Errorf("Levels: from %d", l[:9])
	}
	if l := Reach(ids, arcs, ids); !slices.Equal(l, rising) {
		t.Errorf("Reach of all: %d nodes", len(l))
	}
	if l := Reach(ids, arcs, []int{many / 2}); !slices.Equal(l, rising[:many/2+1]) {
		t.Errorf("Reach of half: %d nodes", len(l))
	}
}

func TestP1603ALongRing(t *testing.T) {
	ids := upTo(many)
	var arcs []api.Arc
	for _, id := range ids {
		arcs = append(arcs, api.Arc{From: id, To: (id + 1) % many})
	}
	rising, levels := make([]int, many), make([]int, many)
	for i := range many {
		rising[i], levels[i] = i, -1
	}
	if l, all := Order(ids, arcs); len(l) > 0 || all {
		t.Errorf("Order: %d nodes, %t", len(l), all)
	}
	if l := Left(ids, arcs); !slices.Equal(l, rising) {
		t.Errorf("Left: %d nodes", len(l))
	}
	if l := Levels(ids, arcs); !slices.Equal(l, levels) {
		t.Errorf("Levels: from %d", l[:9])
	}
	if l := Reach(ids, arcs, []int{many / 2}); !slices.Equal(l, rising) {
		t.Errorf("Reach: %d nodes", len(l))
	}
}

// TestP1603AllArrowsUp: ways are too many to go them all, one by one.
func TestP1603AllArrowsUp(t *testing.T) {
	const nodes = 400
	ids := upTo(nodes)
	var arcs []api.Arc
	for _, from := range ids {
		for _, to := range ids {
			if from < to {
				arcs = append(arcs, api.Arc{From: from, To: to})
			}
		}
	}
	rising := make([]int, nodes)
	for i := range rising {
		rising[i] = i
	}
	wantOrderOf := func(arcs []api.Arc) {
		if l, all := Order(ids, arcs); !all || !slices.Equal(l, rising) {
			t.Errorf("Order: %d %t", l, all)
		}
		if l := Levels(ids, arcs); !slices.Equal(l, rising) {
			t.Errorf("Levels: %d", l)
		}
		if l := Reach(ids, arcs, []int{300, 200}); !slices.Equal(l, rising[200:]) {
			t.Errorf("Reach: %d", l)
		}
	}
	wantOrderOf(arcs)
	slices.Reverse(arcs)
	wantOrderOf(arcs)
}

// TestP1603ManyThatAreFree: one leads to all, and all lead to one.
func TestP1603ManyThatAreFree(t *testing.T) {
	ids := upTo(many)
	var arcs []api.Arc
	for _, id := range ids {
		if id > 0 && id < many-1 {
			arcs = append(arcs, api.Arc{From: many - 1, To: id}, api.Arc{From: id, To: 0})
		}
	}
	order, all := Order(ids, arcs)
	if !all || order[0] != many-1 || order[many-1] != 0 || !slices.IsSorted(order[1:many-1]) {
		t.Errorf("Order: %t, %d nodes", all, len(order))
	}
	levels := Levels(ids, arcs)
	if levels[0] != 2 || levels[many-1] != 0 || slices.Min(levels[1:many-1]) != 1 || slices.Max(levels[1:many-1]) != 1 {
		t.Errorf("Levels: from %d", levels[:9])
	}
	wantReach(t, "the last one", []int{many - 2, 0}, arcs, []int{many - 2}, 0, many-2)
	if l := Reach(ids, arcs, []int{many - 1}); len(l) != many {
		t.Errorf("Reach: %d nodes", len(l))
	}
}

// TestArgumentsStay, what lies in their spare room too; and answers stay, whatever becomes of the arguments.
func TestArgumentsStay(t *testing.T) {
	ids, arcs := mixed(5, 12, 18)
	from := []int{ids[7], ids[3], 100, ids[0], ids[7], ids[2], ids[1]}
	idsBefore, arcsBefore, fromBefore := slices.Clone(ids), slices.Clone(arcs), slices.Clone(from)
	for n := range len(from) + 1 {
		i, a, f := ids[:n+5], arcs[:n+9], from[:n]
		order, _ := Order(i, a)
		told := [][]int{order, Left(i, a), Reach(i, a, f), Levels(i, a)}
		if !slices.Equal(ids, idsBefore) || !slices.Equal(arcs, arcsBefore) || !slices.Equal(from, fromBefore) {
			t.Fatalf("%d %v %d became %d %v %d", idsBefore, arcsBefore, fromBefore, ids, arcs, from)
		}
		kept := fmt.Sprint(told)
		clear(ids)
		clear(arcs)
		clear(from)
		Order(i, a)
		Reach(i, a, f)
		if fmt.Sprint(told) != kept {
			t.Fatalf("%s was told, and that became %d", kept, told)
		}
		copy(ids, idsBefore)
		copy(arcs, arcsBefore)
		copy(from, fromBefore)
	}
}

// TestAnswersAreNew: who changes an answer changes no argument, and no answer that comes later.
func TestAnswersAreNew(t *testing.T) {
	ids, arcs := []int{1, 2, 3, 4}, []api.Arc{{From: 2, To: 1}, {From: 3, To: 3}, {From: 3, To: 4}}
	for range 2 {
		order, _ := Order(ids, arcs)
		for _, l := range [][]int{order, Left(ids, arcs), Reach(ids, arcs, ids), Levels(ids, arcs)} {
			clear(l[:cap(l)])
		}
		wantOrder(t, "again", ids, arcs, false, 2, 1)
		wantLeft(t, "again", ids, arcs, 3, 4)
		wantReach(t, "again", ids, arcs, ids, 1, 2, 3, 4)
		wantLevels(t, "again", ids, arcs, 1, 0, -1, -1)
	}
}

func TestExamplesOfTheChapter(t *testing.T) {
	ids, arcs := []int{1, 2, 3}, []api.Arc{{From: 3, To: 1}, {From: 1, To: 2}}
	wantOrder(t, "example 1", ids, arcs, true, 3, 1, 2)
	wantLevels(t, "example 1", ids, arcs, 1, 2, 0)
}

// graphOfBytes makes nodes of few numbers, and arcs that mostly are of them.
func graphOfBytes(b []byte) ([]int, []api.Arc, []int) {
	var ids, from []int
	var arcs []api.Arc
	for i := 0; i+1 < len(b) && i < 60; i += 2 {
		x, y := int(b[i]&15)-3, int(b[i+1]&15)-3
		switch b[i] >> 6 {
		case 0:
			ids = append(ids, x, y)
		case 1:
			from = append(from, x)
		default:
			arcs = append(arcs, api.Arc{From: x, To: y})
		}
	}
	return ids, arcs, from
}

func FuzzGraph(f *testing.F) {
	f.Add([]byte{1, 2, 3, 4, 5, 6, 0x41, 0, 0x81, 2, 0x82, 3, 0xc3, 1, 0x84, 5, 0x85, 5, 0x86, 20})
	f.Fuzz(func(t *testing.T, b []byte) {
		ids, arcs, from := graphOfBytes(b)
		wantLaws(t, ids, arcs)
		wantAlike(t, "fuzzed", ids, arcs, from, ids)
	})
}

func FuzzThreeNodes(f *testing.F) {
	f.Add(1, 2, 3, 3, 1, 1, 2, 2)
	f.Add(least, greatest, 0, greatest, least, 0, 0, least)
	f.Fuzz(func(t *testing.T, a, b, c, from, to, from2, to2, start int) {
		ids := []int{a, b, c}
		for _, arcs := range [][]api.Arc{
			{{From: from, To: to}, {From: from2, To: to2}},
			{{From: a, To: b}, {From: from, To: to}, {From: b, To: to2}},
			{{From: c, To: a}, {From: b, To: c}, {From: from2, To: b}},
		} {
			wantLaws(t, ids, arcs)
			wantAlike(t, "fuzzed", ids, arcs, []int{start}, []int{a, start}, []int{c, b})
		}
	})
}
