package walk

import (
	"fmt"
	"math"
	"regexp"
	"slices"
	"strconv"
	"strings"
	"testing"

	"tallyman/api"
	"tallyman/motion"
)

const (
	least    = math.MinInt
	greatest = math.MaxInt
	far      = 1048576
)

func fore(n int) api.Move  { return api.Move{Kind: 1, N: n} }
func back(n int) api.Move  { return api.Move{Kind: 2, N: n} }
func left(n int) api.Move  { return api.Move{Kind: 3, N: n} }
func right(n int) api.Move { return api.Move{Kind: 4, N: n} }

func moves(l ...api.Move) []api.Move {
	return l
}

func at(x, y int) api.Point {
	return api.Point{X: x, Y: y}
}

func by(turn, x, y int) api.Motion {
	return api.Motion{Turn: turn, By: at(x, y)}
}

func joined(a, b []api.Move) []api.Move {
	return slices.Concat(a, b)
}

// noKinds are kinds that are none, such too as an int of fewer bits takes for one.
func noKinds() []int {
	return []int{least, least + 1, -1<<32 + 2, -4, -3, -2, -1, 0, 5, 6, 7, 9, 256 + 1, 1<<32 + 1, 1<<32 + 3, greatest}
}

// counts are numbers, and how they count.
func counts() map[int]int {
	return map[int]int{
		least: 0, -1<<32 + 7: 0, -far: 0, -1: 0, 0: 0, 1: 1, 2: 2, 3: 3, 4: 4, 5: 5, 999: 999, 1000: 1000,
		far - 1: far - 1, far: far, far + 1: far, 1<<32 + 1: far, 1<<53 + 1: far, greatest: far,
	}
}

// walks are all walks of up to so many moves out of these.
func walks(most int, of []api.Move) [][]api.Move {
	all := [][]api.Move{nil}
	longest := all
	for range most {
		var longer [][]api.Move
		for _, l := range longest {
			for _, m := range of {
				longer = append(longer, joined(l, moves(m)))
			}
		}
		all = append(all, longer...)
		longest = longer
	}
	return all
}

// someMoves are of each kind and of none, with as many quarters as one may turn, and more.
func someMoves() []api.Move {
	return moves(fore(1), fore(3), back(2), back(3), left(1), left(2), left(7), right(1), right(6), left(4), fore(0), back(-5), api.Move{Kind: 5, N: 2})
}

// counted is how N counts, told by cases.
func counted(n int) int {
	switch {
	case n < 0:
		return 0
	case n > far:
		return far
	}
	return n
}

// traced goes step by step, in whole numbers, with the four ways told by cases.
func traced(l []api.Move) ([]api.Point, int) {
	p, looks := at(0, 0), 0
	trace := []api.Point{p}
	step := func(way int) {
		switch looks {
		case 0:
			p.X += way
		case 1:
			p.Y += way
		case 2:
			p.X -= way
		case 3:
			p.Y -= way
		}
		trace = append(trace, p)
	}
	for _, m := range l {
		for range counted(m.N) {
			switch m.Kind {
			case 1:
				step(1)
			case 2:
				step(-1)
			case 3:
				looks = (looks + 1) % 4
			case 4:
				looks = (looks + 3) % 4
			}
		}
	}
	return trace, looks
}

// shortened makes one of the first two that stand side by side, over and over, as the chapter says it.
func shortened(l []api.Move) []api.Move {
	var fixed []api.Move
	for _, m := range l {
		fixed = append(fixed, api.Move{Kind: m.Kind, N: counted(m.N)})
	}
	l = plain(fixed)
	for {
		i := mergeable(l)
		if i < 0 {
			return l
		}
		l = plain(slices.Concat(l[:i], moves(merged(l[i], l[i+1])), l[i+2:]))
	}
}

func goes(m api.Move) bool {
	return m.Kind == 1 || m.Kind == 2
}

// plain takes out what does nothing, and has turns by the fewest quarters; what goes may go beyond Far.
func plain(l []api.Move) []api.Move {
	var some []api.Move
	for _, m := range l {
		n := m.N
		if m.Kind < 1 || m.Kind > 4 || n == 0 {
			continue
		}
		if goes(m) {
			some = append(some, m)
			continue
		}
		if m.Kind == 4 {
			n *= 3
		}
		switch n % 4 {
		case 1, 2:
			some = append(some, left(n%4))
		case 3:
			some = append(some, right(1))
		}
	}
	return some
}

func tooBig(l []api.Move) bool {
	return slices.ContainsFunc(l, func(m api.Move) bool { return m.N > far })
}

func mergeable(l []api.Move) int {
	for i := 1; i < len(l); i++ {
		if goes(l[i-1]) == goes(l[i]) {
			return i - 1
		}
	}
	return -1
}

func merged(a, b api.Move) api.Move {
	if a.Kind == b.Kind {
		return api.Move{Kind: a.Kind, N: a.N + b.N}
	}
	if a.N >= b.N {
		return api.Move{Kind: a.Kind, N: a.N - b.N}
	}
	return api.Move{Kind: b.Kind, N: b.N - a.N}
}

func wantParse(t *testing.T, s string, want []api.Move, wrong api.Errno, place int) {
	t.Helper()
	l, e, n := Parse(s)
	if !slices.Equal(l, want) || e != wrong || n != place {
		t.Errorf("Parse(%q): %v %d %d, not %v %d %d", s, l, e, n, want, wrong, place)
	}
	if wrong != api.OK && l != nil {
		t.Errorf("Parse(%q): a list beside the error", s)
	}
}

func wantText(t *testing.T, l []api.Move, want string) {
	t.Helper()
	if s := Text(l); s != want {
		t.Errorf("Text(%v): %q, not %q", l, s, want)
	}
}

func wantEnd(t *testing.T, l []api.Move, want api.Motion) {
	t.Helper()
	if m := End(l); m != want {
		t.Errorf("End(%v): %v, not %v", l, m, want)
	}
}

func wantTrace(t *testing.T, l []api.Move, want []api.Point, wrong api.Errno) {
	t.Helper()
	trace, e := Trace(l)
	if !slices.Equal(trace, want) || e != wrong {
		t.Errorf("Trace(%v): %d points %v, not %d points %v", l, len(trace), e, len(want), wrong)
	}
	if wrong != api.OK && trace != nil {
		t.Errorf("Trace(%v): points beside the error", l)
	}
}

func wantShort(t *testing.T, l, want []api.Move, wrong api.Errno) {
	t.Helper()
	short, e := Short(l)
	if !slices.Equal(short, want) || e != wrong {
		t.Errorf("Short(%v): %v %d, not %v %d", l, short, e, want, wrong)
	}
	if wrong != api.OK && short != nil {
		t.Errorf("Short(%v): moves beside the error", l)
	}
}

func wantReverse(t *testing.T, l, want []api.Move) {
	t.Helper()
	if r := Reverse(l); !slices.Equal(r, want) {
		t.Errorf("Reverse(%v): %v, not %v", l, r, want)
	}
}

func TestP501Parse(t *testing.T) {
	for s, want := range map[string][]api.Move{
		"": nil, "F": moves(fore(1)), "B": moves(back(1)), "L": moves(left(1)), "R": moves(right(1)),
		"F1": moves(fore(1)), "B2": moves(back(2)), "L9": moves(left(9)), "R10": moves(right(10)), "F99": moves(fore(99)),
		"L100": moves(left(100)), "F999": moves(fore(999)), "B909": moves(back(909)), "R4": moves(right(4)),
		"FF": moves(fore(1), fore(1)), "F1F1": moves(fore(1), fore(1)), "F12B": moves(fore(12), back(1)), "LF3": moves(left(1), fore(3)),
		"F999B999L999R999": moves(fore(999), back(999), left(999), right(999)), "FBLR": moves(fore(1), back(1), left(1), right(1)),
	} {
		wantParse(t, s, want, api.OK, 0)
	}
	long := strings.Repeat("F2L", 100000)
	l, e, n := Parse(long)
	if len(l) != 200000 || l[199998] != fore(2) || l[199999] != left(1) || e != api.OK || n != 0 {
		t.Errorf("Parse of 200,000 moves: %d %d %d", len(l), e, n)
	}
}

func TestP501ParseWrong(t *testing.T) {
	for s, place := range map[string]int{
		"1": 0, "0": 0, "12": 0, "1234": 0, " ": 0, " F": 0, "f": 0, "X": 0, "-": 0, "A": 0, "\x00": 0, "\xff": 0, "é": 0,
		"F0": 1, "F01": 1, "F00": 1, "F0000": 1, "F-1": 1, "F+1": 1, "F 2": 1, "F ": 1, "Fx": 1, "F/": 1, "F:": 1, "F\n": 1, "F٣": 1, "F²": 1, "Fb": 1, "F,B": 1,
		"F1.5": 2, "F1x": 2, "F9 9": 2, "F2X": 2, "FL0": 2, "FL0R0": 2, "F10L0": 4, "F999 9": 4, "F999é": 4, "L3R2l": 4, "F1B22L333Rr": 10,
	} {
		wantParse(t, s, nil, api.ErrForm, place)
	}
	for s, place := range map[string]int{
		"F1000": 4, "F9990": 4, "F9999": 4, "B1234567890": 4, "L1000X": 4, "R99999999999999999999": 4, "FB1000": 5, "F1000F0": 4, "F999B1110": 8, "FBLR1111": 7,
	} {
		wantParse(t, s, nil, api.ErrRange, place)
	}
	wantParse(t, strings.Repeat("F999", 5000)+"0", nil, api.ErrRange, 20000)
	wantParse(t, strings.Repeat("F999", 5000)+"O", nil, api.ErrForm, 20000)
}

// wantedParse asks which is the first byte up to which no text of walks begins so: a text cut off anywhere is one still.
func wantedParse(s string) ([]api.Move, api.Errno, int) {
	whole := regexp.MustCompile(`^([FBLR]([1-9][0-9]?[0-9]?)?)*$`)
	for i := range len(s) {
		if whole.MatchString(s[:i+1]) {
			continue
		}
		if regexp.MustCompile(`[1-9][0-9][0-9][0-9]$`).MatchString(s[:i+1]) {
			return nil, api.ErrRange, i
		}
		return nil, api.ErrForm, i
	}
	var l []api.Move
	for _, m := range regexp.MustCompile(`[FBLR][0-9]*`).FindAllString(s, -1) {
		n, err := strconv.Atoi(m[1:])
		if err != nil {
			n = 1
		}
		l = append(l, api.Move{Kind: map[byte]int{'F': 1, 'B': 2, 'L': 3, 'R': 4}[m[0]], N: n})
	}
	return l, api.OK, 0
}

// TestP501ParseOfAll takes all short texts of some bytes.
func TestP501ParseOfAll(t *testing.T) {
	for _, some := range []struct {
		bytes string
		most  int
	}{{"FR019", 6}, {"FBLR120 x", 4}} {
		texts := []string{""}
		for range some.most {
			var longer []string
			for _, s := range texts {
				for _, b := range some.bytes {
					longer = append(longer, s+string(b))
				}
			}
			texts = longer
			for _, s := range texts {
				l, e, n := wantedParse(s)
				wantParse(t, s, l, e, n)
			}
		}
	}
	for b := range 256 {
		for _, ahead := range []string{"", "F", "L1", "R12", "B123"} {
			s := ahead + string([]byte{byte(b)})
			l, e, n := wantedParse(s)
			wantParse(t, s, l, e, n)
		}
	}
}

func TestP501Text(t *testing.T) {
	wantText(t, nil, "")
	wantText(t, moves(), "")
	wantText(t, moves(fore(1), back(1), left(1), right(1)), "FBLR")
	wantText(t, moves(fore(2), left(1), fore(3)), "F2LF3")
	// Turns that do nothing have a text as well.
	wantText(t, moves(left(4), right(8), fore(0), right(5)), "L4R8R5")
	for n, as := range counts() {
		digits := strconv.Itoa(as)
		for kind, letter := range map[int]string{1: "F", 2: "B", 3: "L", 4: "R"} {
			want := letter + digits
			switch as {
			case 0:
				want = ""
			case 1:
				want = letter
			}
			wantText(t, moves(api.Move{Kind: kind, N: n}), want)
			wantText(t, moves(back(7), api.Move{Kind: kind, N: n}, left(1)), "B7"+want+"L")
		}
		for _, kind := range noKinds() {
			wantText(t, moves(api.Move{Kind: kind, N: n}), "")
			wantText(t, moves(right(2), api.Move{Kind: kind, N: n}, fore(1)), "R2F")
		}
	}
}

// TestP501TextIsRead: Parse takes what Text tells of numbers up to 999, and Text tells what Parse took.
func TestP501TextIsRead(t *testing.T) {
	for kind := 1; kind <= 4; kind++ {
		for n := 1; n <= 999; n++ {
			m := api.Move{Kind: kind, N: n}
			wantParse(t, Text(moves(m)), moves(m), api.OK, 0)
			wantParse(t, Text(moves(right(3), m, fore(1))), moves(right(3), m, fore(1)), api.OK, 0)
		}
	}
	wantParse(t, Text(moves(fore(1000))), nil, api.ErrRange, 4)
	wantParse(t, Text(moves(left(1), back(greatest))), nil, api.ErrRange, 5)
}

func TestP502End(t *testing.T) {
	wantEnd(t, nil, api.Motion{})
	wantEnd(t, moves(), api.Motion{})
	for n, as := range counts() {
		wantEnd(t, moves(fore(n)), by(0, as, 0))
		wantEnd(t, moves(back(n)), by(0, -as, 0))
		wantEnd(t, moves(left(n)), by(as%4, 0, 0))
		wantEnd(t, moves(right(n)), by((4-as%4)%4, 0, 0))
		wantEnd(t, moves(left(1), fore(n)), by(1, 0, as))
		wantEnd(t, moves(left(2), fore(n)), by(2, -as, 0))
		wantEnd(t, moves(left(3), fore(n)), by(3, 0, -as))
		wantEnd(t, moves(right(1), back(n)), by(3, 0, as))
		for _, kind := range noKinds() {
			wantEnd(t, moves(fore(2), api.Move{Kind: kind, N: n}, left(1), api.Move{Kind: kind, N: n}), by(1, 2, 0))
		}
	}
	wantEnd(t, moves(fore(2), left(1), fore(3), right(2), back(1)), by(3, 2, 4))
	wantEnd(t, moves(left(1), fore(1), left(1), fore(1), left(1), fore(1), left(1), fore(1)), by(0, 0, 0))
}

// TestP502EndIsNotFixed: far beyond Far, to the last step.
func TestP502EndIsNotFixed(t *testing.T) {
	wantEnd(t, moves(fore(far), fore(1)), by(0, 1048577, 0))
	wantEnd(t, moves(fore(greatest), fore(far+1), left(1), back(greatest), right(2), fore(greatest), fore(3)), by(3, 2097152, -2097155))
	wantEnd(t, moves(fore(far), fore(far), back(far)), by(0, 1048576, 0))
	wantEnd(t, joined(slices.Repeat(moves(fore(far)), 5000), moves(fore(1), right(1), fore(2))), by(3, 5000*far+1, -2))
	wantEnd(t, joined(slices.Repeat(moves(left(1), fore(far-1), right(1), back(greatest)), 3000), moves(fore(1))), by(0, -3000*far+1, 3000*(far-1)))
	wantEnd(t, slices.Repeat(moves(left(greatest), right(far-1), fore(1)), 4001), by(1, 0, 1))
}

func TestP502Trace(t *testing.T) {
	wantTrace(t, nil, []api.Point{{}}, api.OK)
	wantTrace(t, moves(), []api.Point{{}}, api.OK)
	wantTrace(t, moves(fore(1), left(1), back(1)), []api.Point{at(0, 0), at(1, 0), at(1, -1)}, api.OK)
	wantTrace(t, moves(back(3)), []api.Point{at(0, 0), at(-1, 0), at(-2, 0), at(-3, 0)}, api.OK)
	// What is come to again stands there again, and a turn comes to nothing.
	wantTrace(t, moves(fore(2), back(2)), []api.Point{at(0, 0), at(1, 0), at(2, 0), at(1, 0), at(0, 0)}, api.OK)
	wantTrace(t, moves(fore(1), left(2), fore(1), left(2)), []api.Point{at(0, 0), at(1, 0), at(0, 0)}, api.OK)
	wantTrace(t, moves(left(greatest), right(far), left(7)), []api.Point{{}}, api.OK)
	wantTrace(t, moves(left(7), fore(2)), []api.Point{at(0, 0), at(0, -1), at(0, -2)}, api.OK)
	wantTrace(t, moves(fore(0), back(least), fore(-4), back(1)), []api.Point{at(0, 0), at(-1, 0)}, api.OK)
	for _, kind := range noKinds() {
		wantTrace(t, moves(api.Move{Kind: kind, N: greatest}, back(1), api.Move{Kind: kind, N: 1}), []api.Point{at(0, 0), at(-1, 0)}, api.OK)
	}
}

func TestP502TraceOfTooMany(t *testing.T) {
	for _, l := range [][]api.Move{
		moves(fore(10000)), moves(back(10000)), moves(fore(5000), back(5000)), moves(fore(9999), left(1), fore(1), right(1)),
		joined(slices.Repeat(moves(fore(1), right(1)), 10000), moves(fore(0), api.Move{Kind: 5, N: 1})),
		moves(left(10001), right(greatest), back(10000)),
	} {
		trace, _ := traced(moves(l...))
		wantTrace(t, l, trace, api.OK)
		if len(trace) != 10001 {
			t.Errorf("%v has %d points", l, len(trace))
		}
		wantTrace(t, joined(l, moves(fore(1))), nil, api.ErrBig)
		wantTrace(t, joined(moves(back(1)), l), nil, api.ErrBig)
	}
	for n, as := range counts() {
		wrong := api.OK
		if as > 10000 {
			wrong = api.ErrBig
		}
		for _, m := range moves(fore(n), back(n)) {
			var trace []api.Point
			if wrong == api.OK {
				trace, _ = traced(moves(m))
			}
			wantTrace(t, moves(m), trace, wrong)
		}
	}
	wantTrace(t, moves(fore(10001)), nil, api.ErrBig)
	wantTrace(t, moves(fore(5001), back(5000)), nil, api.ErrBig)
	wantTrace(t, moves(fore(5000), left(2), fore(5001)), nil, api.ErrBig)
	wantTrace(t, slices.Repeat(moves(fore(greatest)), 100000), nil, api.ErrBig)
	// So many steps that an int of 32 bits would come to 0 again.
	wantTrace(t, slices.Repeat(moves(fore(far)), 4096), nil, api.ErrBig)
}

func TestP502AsReckoned(t *testing.T) {
	for _, l := range walks(4, someMoves()) {
		trace, looks := traced(l)
		wantEnd(t, l, api.Motion{Turn: looks, By: trace[len(trace)-1]})
		wantTrace(t, l, trace, api.OK)
	}
}

func TestP503Short(t *testing.T) {
	wantShort(t, nil, nil, api.OK)
	wantShort(t, moves(), nil, api.OK)
	for _, c := range []struct{ l, want []api.Move }{
		{moves(fore(2), fore(3)), moves(fore(5))}, {moves(back(2), back(3)), moves(back(5))}, {moves(fore(2), back(3)), moves(back(1))},
		{moves(back(2), fore(3)), moves(fore(1))}, {moves(fore(3), back(3)), nil}, {moves(back(1), fore(1)), nil},
		{moves(left(1), left(1)), moves(left(2))}, {moves(left(1), left(2)), moves(right(1))}, {moves(left(2), left(2)), nil},
		{moves(right(1), right(1)), moves(left(2))}, {moves(right(1), right(2)), moves(left(1))}, {moves(left(1), right(1)), nil},
		{moves(right(1), left(2)), moves(left(1))}, {moves(left(1), right(2)), moves(right(1))}, {moves(right(2), right(2)), nil},
		{moves(fore(2), left(1), fore(3)), moves(fore(2), left(1), fore(3))}, {moves(fore(2), left(2), fore(2)), moves(fore(2), left(2), fore(2))},
		// What comes side by side when others are taken out becomes one as well.
		{moves(fore(2), left(1), right(1), fore(3)), moves(fore(5))}, {moves(left(1), fore(3), back(3), left(1)), moves(left(2))},
		{moves(fore(2), left(1), back(4), fore(4), right(1), back(2)), nil}, {moves(fore(2), left(1), back(4), fore(4), left(2), back(2)), moves(fore(2), right(1), back(2))},
		{moves(left(3), fore(0), left(1), fore(1)), moves(fore(1))}, {moves(fore(1), left(4), fore(1), left(8), back(3)), moves(back(1))},
		{moves(fore(1), left(1), fore(2), left(1), left(3), back(2), right(1), back(1)), nil},
		{moves(fore(1), api.Move{Kind: 9, N: 3}, fore(1)), moves(fore(2))}, {moves(left(1), api.Move{Kind: 0, N: 1}, right(3)), moves(left(2))},
		{moves(fore(2), left(4), fore(3), api.Move{Kind: 9, N: 1}, right(3)), moves(fore(5), left(1))},
	} {
		wantShort(t, c.l, c.want, api.OK)
	}
}

func TestP503ShortOfOne(t *testing.T) {
	quarters := [][]api.Move{nil, moves(left(1)), moves(left(2)), moves(right(1))}
	for n, as := range counts() {
		on, off := moves(fore(as)), moves(back(as))
		if as == 0 {
			on, off = nil, nil
		}
		wantShort(t, moves(fore(n)), on, api.OK)
		wantShort(t, moves(back(n)), off, api.OK)
		wantShort(t, moves(left(n)), quarters[as%4], api.OK)
		wantShort(t, moves(right(n)), quarters[(4-as%4)%4], api.OK)
		for _, kind := range noKinds() {
			wantShort(t, moves(api.Move{Kind: kind, N: n}), nil, api.OK)
		}
	}
}

func TestP503ShortAboveFar(t *testing.T) {
	for _, l := range [][]api.Move{
		moves(fore(far), fore(1)), moves(back(far), back(1)), moves(fore(greatest), fore(greatest)), moves(back(1), back(far)),
		moves(fore(1), left(1), fore(far), left(4), fore(1)), moves(back(far), fore(2), back(3), left(1), fore(1)), moves(left(1), fore(far), back(1), fore(2), right(1)),
		slices.Repeat(moves(fore(far)), 5000), slices.Repeat(moves(back(far)), 4096), joined(slices.Repeat(moves(fore(far)), 4096), moves(fore(1))),
	} {
		wantShort(t, l, nil, api.ErrBig)
	}
	for _, c := range []struct{ l, want []api.Move }{
		// What is above Far on the way only does no harm, nor do turns.
		{moves(fore(far), fore(far), back(far)), moves(fore(far))}, {moves(fore(greatest), fore(1), back(1)), moves(fore(far))},
		{moves(back(far), back(far), back(far), fore(far), fore(far)), moves(back(far))}, {moves(fore(far-1), fore(1)), moves(fore(far))},
		{joined(slices.Repeat(moves(fore(far)), 5000), slices.Repeat(moves(back(far)), 5000)), nil},
		{joined(slices.Repeat(moves(back(far)), 4097), slices.Repeat(moves(fore(greatest)), 4098)), moves(fore(far))},
		{moves(fore(far), left(1), fore(far)), moves(fore(far), left(1), fore(far))}, {moves(left(greatest), left(greatest), right(far-1)), moves(left(1))},
		{slices.Repeat(moves(right(far-1)), 4097), moves(left(1))}, {slices.Repeat(moves(left(far+7), left(far-3)), 4097), moves(left(1))},
	} {
		wantShort(t, c.l, c.want, api.OK)
	}
}

func TestP503ShortOfAll(t *testing.T) {
	for _, l := range walks(4, someMoves()) {
		wantShort(t, l, shortened(l), api.OK)
	}
	for _, l := range walks(7, moves(fore(1), back(1), left(1), right(1))) {
		wantShort(t, l, shortened(l), api.OK)
	}
	for _, l := range walks(6, moves(fore(2), back(2), left(2), right(3))) {
		wantShort(t, l, shortened(l), api.OK)
	}
}

func TestP503ShortOfAllAboutFar(t *testing.T) {
	for _, l := range walks(5, moves(fore(far), back(greatest), fore(1), back(far-1), left(1), right(1))) {
		want, wrong := shortened(l), api.OK
		if tooBig(want) {
			want, wrong = nil, api.ErrBig
		}
		wantShort(t, l, want, wrong)
	}
}

func TestP503Reverse(t *testing.T) {
	wantReverse(t, nil, nil)
	wantReverse(t, moves(), nil)
	wantReverse(t, moves(fore(2), left(1), fore(3), right(2), back(1)), moves(fore(1), left(2), back(3), right(1), back(2)))
	for n := range counts() {
		wantReverse(t, moves(fore(n)), moves(back(n)))
		wantReverse(t, moves(back(n)), moves(fore(n)))
		wantReverse(t, moves(left(n)), moves(right(n)))
		wantReverse(t, moves(right(n)), moves(left(n)))
		for _, kind := range noKinds() {
			m := api.Move{Kind: kind, N: n}
			wantReverse(t, moves(m), moves(m))
			wantReverse(t, moves(m, fore(n), left(4)), moves(right(4), back(n), m))
		}
	}
}

// TestNothingIsShared: what is handed in stays as it was, and what is handed out is new.
func TestNothingIsShared(t *testing.T) {
	whole := moves(fore(2), fore(3), left(4), api.Move{Kind: 9, N: -1}, right(greatest), back(7), fore(5))
	l, before := whole[:5], slices.Clone(whole)
	Text(l)
	End(l)
	Trace(l)
	short, _ := Short(l)
	back := Reverse(l)
	if !slices.Equal(whole, before) {
		t.Errorf("%v became %v", before, whole)
	}
	for _, out := range [][]api.Move{short, back} {
		clear(out[:cap(out)])
	}
	if !slices.Equal(whole, before) {
		t.Errorf("%v became %v by what was handed out", before, whole)
	}
}

// endsNear are walks that end within 500 steps, of moves that take them farther than one would see.
func endsNear() [][]api.Move {
	return walks(3, moves(fore(250), fore(500), back(499), back(1), left(1), left(2), right(1), right(7), left(8), fore(0), api.Move{Kind: 6, N: 3}))
}

func within500(m api.Motion) bool {
	x, y := m.By.X, m.By.Y
	return max(x, -x)+max(y, -y) <= 500
}

func TestP504EndOfTwo(t *testing.T) {
	var near [][]api.Move
	for _, l := range endsNear() {
		if within500(End(l)) {
			near = append(near, l)
		}
	}
	if len(near) < 500 {
		t.Fatalf("%d walks only", len(near))
	}
	for _, a := range near {
		for _, b := range near {
			if got, want := End(joined(a, b)), motion.Then(End(b), End(a)); got != want {
				t.Fatalf("%v, and %v: %v, not %v", a, b, got, want)
			}
		}
	}
}

func TestP504Reverse(t *testing.T) {
	for _, l := range append(endsNear(), walks(4, someMoves())...) {
		end, undone := End(l), End(Reverse(l))
		if within500(end) && motion.Back(end) != undone {
			t.Errorf("%v ends %v, its reverse %v", l, end, undone)
		}
		wantEnd(t, joined(l, Reverse(l)), api.Motion{})
		wantEnd(t, joined(Reverse(l), l), api.Motion{})
		wantShort(t, joined(l, Reverse(l)), nil, api.OK)
		wantShort(t, joined(Reverse(l), l), nil, api.OK)
		wantReverse(t, Reverse(l), l)
	}
}

func TestP504Short(t *testing.T) {
	for _, l := range append(endsNear(), walks(4, someMoves())...) {
		short, e := Short(l)
		if e != api.OK || len(short) > len(l) {
			t.Fatalf("Short(%v): %v %d", l, short, e)
		}
		wantEnd(t, short, End(l))
		wantShort(t, short, short, api.OK)
	}
}

func TestExamplesOfTheChapter(t *testing.T) {
	l, _, _ := Parse("F2LF3")
	wantEnd(t, l, by(1, 2, 3))
	l, _, _ = Parse("F2L4F3")
	short, _ := Short(l)
	wantText(t, short, "F5")
}

func FuzzTexts(f *testing.F) {
	for _, s := range []string{"", "F2LF3R2B", "F2X", "F1000", "FL0", "L999B10R1"} {
		f.Add(s)
	}
	f.Fuzz(func(t *testing.T, s string) {
		want, wrong, place := wantedParse(s)
		wantParse(t, s, want, wrong, place)
		l, e, _ := Parse(s)
		if e == api.OK {
			wantParse(t, Text(l), l, api.OK, 0)
		}
	})
}

func FuzzWalks(f *testing.F) {
	f.Add(1, 2, 3, 4, 2, 1, 4, 9)
	f.Add(1, greatest, 4, least, 2, far+1, 1, 1<<53+1)
	f.Fuzz(func(t *testing.T, k1, n1, k2, n2, k3, n3, k4, n4 int) {
		l := moves(api.Move{Kind: k1, N: n1}, api.Move{Kind: k2, N: n2}, api.Move{Kind: k3 % 8, N: n3}, api.Move{Kind: k4 % 8, N: n4 % 9})
		wantEnd(t, joined(l, Reverse(l)), api.Motion{})
		short, e := Short(l)
		want := shortened(l)
		big := tooBig(want)
		if big != (e == api.ErrBig) || !big && !slices.Equal(short, want) {
			t.Errorf("Short(%v): %v %d, not %v", l, short, e, want)
		}
		if !big {
			wantEnd(t, short, End(l))
		}
		trace, e := Trace(l)
		path, looks := traced(l)
		if len(path) > 10001 {
			path = nil
		}
		if !slices.Equal(trace, path) || (path == nil) != (e == api.ErrBig) {
			t.Errorf("Trace(%v): %s", l, fmt.Sprint(len(trace), e))
		}
		if path != nil {
			wantEnd(t, l, api.Motion{Turn: looks, By: path[len(path)-1]})
		}
	})
}
