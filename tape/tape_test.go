package tape

import (
	"bytes"
	"math"
	"slices"
	"strconv"
	"testing"

	"tallyman/api"
)

// cell is a byte of a tape, and whether it is sure.
type cell struct {
	c    byte
	sure bool
}

// reckoned is a tape by the chapter's words: each of its bytes tells by itself whether it is sure.
type reckoned []cell

func (r *reckoned) write(b []byte) {
	for _, c := range b {
		*r = append(*r, cell{c, false})
	}
}

func (r *reckoned) sync() {
	for i := range *r {
		(*r)[i].sure = true
	}
}

// crash goes over the bytes one by one, so that it needs no sum of keep's.
func (r *reckoned) crash(keep int) {
	var stay reckoned
	for _, x := range *r {
		if !x.sure {
			if keep <= 0 {
				continue
			}
			keep--
		}
		stay = append(stay, cell{x.c, true})
	}
	*r = stay
}

func (r *reckoned) cut(n int) api.Errno {
	switch {
	case n < 0:
		return api.ErrArg
	case n > r.sure():
		return api.ErrState
	}
	*r = (*r)[n:]
	return api.OK
}

func (r *reckoned) bytes() []byte {
	var b []byte
	for _, x := range *r {
		b = append(b, x.c)
	}
	return b
}

func (r *reckoned) sure() int {
	n := 0
	for _, x := range *r {
		if x.sure {
			n++
		}
	}
	return n
}

// act is something that a tape goes through, and a reckoned one likewise.
type act struct {
	what   string
	of     func(x *Tape) api.Errno
	likely func(r *reckoned) api.Errno
}

func writeOf(b []byte) act {
	return act{"Write(" + strconv.Quote(string(b)) + ")",
		func(x *Tape) api.Errno { x.Write(b); return api.OK },
		func(r *reckoned) api.Errno { r.write(b); return api.OK }}
}

func syncOf() act {
	return act{"Sync",
		func(x *Tape) api.Errno { x.Sync(); return api.OK },
		func(r *reckoned) api.Errno { r.sync(); return api.OK }}
}

func crashOf(keep int) act {
	return act{"Crash(" + strconv.Itoa(keep) + ")",
		func(x *Tape) api.Errno { x.Crash(keep); return api.OK },
		func(r *reckoned) api.Errno { r.crash(keep); return api.OK }}
}

func cutOf(n int) act {
	return act{"Cut(" + strconv.Itoa(n) + ")",
		func(x *Tape) api.Errno { return x.Cut(n) },
		func(r *reckoned) api.Errno { return r.cut(n) }}
}

// fewActs are such of every kind, at their edges.
func fewActs() []act {
	l := []act{writeOf(nil), writeOf([]byte("x")), writeOf([]byte("yz")), syncOf()}
	for _, n := range []int{math.MinInt, -1, 0, 1, 2, math.MaxInt} {
		l = append(l, crashOf(n), cutOf(n))
	}
	return l
}

// mixed are so many bytes, all of them unlike their neighbours.
func mixed(n int) []byte {
	b := make([]byte, n)
	w := uint32(n) + 1
	for i := range b {
		w = w*1664525 + 1013904223
		b[i] = byte(w >> 24)
	}
	return b
}

// held is a tape on which some bytes are sure, and others not.
func held(sure, loose []byte) *Tape {
	x := New()
	x.Write(sure)
	x.Sync()
	x.Write(loose)
	return x
}

// told are bytes as a message tells them.
func told(b []byte) any {
	if len(b) > 40 {
		return struct {
			ahead []byte
			bytes int
		}{b[:40], len(b)}
	}
	return b
}

func want(t *testing.T, what string, x *Tape, all []byte, sure int) {
	t.Helper()
	if !bytes.Equal(x.Bytes(), all) || x.Len() != len(all) || x.Sure() != sure {
		t.Fatalf("%s: %v, of %d, %d sure, not %v, %d sure", what, told(x.Bytes()), x.Len(), x.Sure(), told(all), sure)
	}
}

func wantCut(t *testing.T, x *Tape, n int, e api.Errno) {
	t.Helper()
	if got := x.Cut(n); got != e {
		t.Fatalf("Cut(%d) of %d sure: %v, not %v", n, x.Sure(), got, e)
	}
}

func TestP1101New(t *testing.T) {
	x := New()
	want(t, "New", x, nil, 0)
	y := New()
	y.Write([]byte("ab"))
	y.Sync()
	want(t, "beside another one", x, nil, 0)
	want(t, "another one", y, []byte("ab"), 2)
}

func TestP1101Write(t *testing.T) {
	x := New()
	x.Write([]byte("ab"))
	want(t, "Write", x, []byte("ab"), 0)
	x.Write(nil)
	x.Write([]byte{})
	want(t, "Write of nothing", x, []byte("ab"), 0)
	x.Write([]byte{0, 255})
	want(t, "Write again", x, []byte{'a', 'b', 0, 255}, 0)
	x.Sync()
	x.Write([]byte("c"))
	want(t, "Write behind Sync", x, []byte{'a', 'b', 0, 255, 'c'}, 4)
	x.Write(x.Bytes())
	want(t, "Write of its own bytes", x, []byte{'a', 'b', 0, 255, 'c', 'a', 'b', 0, 255, 'c'}, 4)
}

func TestP1101Sync(t *testing.T) {
	x := New()
	x.Sync()
	want(t, "Sync of nothing", x, nil, 0)
	x.Write([]byte("abc"))
	x.Sync()
	want(t, "Sync", x, []byte("abc"), 3)
	x.Sync()
	want(t, "Sync again", x, []byte("abc"), 3)
	x.Write([]byte("de"))
	x.Write([]byte("f"))
	want(t, "Writes behind it", x, []byte("abcdef"), 3)
	x.Sync()
	want(t, "Sync of these", x, []byte("abcdef"), 6)
}

func TestP1101LongTape(t *testing.T) {
	x := New()
	var all []byte
	sure := 0
	for n := range 700 {
		b := mixed(n)
		x.Write(b)
		all = append(all, b...)
		if n%3 == 1 {
			x.Sync()
			sure = len(all)
		}
		want(t, "Write of many", x, all, sure)
	}
	b := mixed(1 << 20)
	x.Write(b)
	want(t, "Write of a million", x, append(all, b...), sure)
}

func TestP1102Crash(t *testing.T) {
	for _, c := range []struct {
		keep int
		want string
	}{
		{math.MinInt, "ab"}, {-1, "ab"}, {0, "ab"}, {1, "abc"}, {2, "abcd"}, {3, "abcde"}, {4, "abcde"}, {5, "abcde"}, {6, "abcde"}, {math.MaxInt - 1, "abcde"}, {math.MaxInt, "abcde"},
	} {
		x := held([]byte("ab"), []byte("cde"))
		x.Crash(c.keep)
		want(t, "Crash("+strconv.Itoa(c.keep)+")", x, []byte(c.want), len(c.want))
		x.Crash(0)
		want(t, "Crash(0) behind it", x, []byte(c.want), len(c.want))
		x.Write([]byte("fg"))
		want(t, "Write behind it", x, []byte(c.want+"fg"), len(c.want))
	}
}

func TestP1102CrashWithNothingLoose(t *testing.T) {
	for _, keep := range []int{math.MinInt, -1, 0, 1, 2, 3, math.MaxInt} {
		x := New()
		x.Crash(keep)
		want(t, "Crash of nothing", x, nil, 0)
		x = held([]byte("ab"), nil)
		x.Crash(keep)
		want(t, "Crash of what is sure", x, []byte("ab"), 2)
	}
}

func TestP1102CrashWithNothingSure(t *testing.T) {
	for keep, all := range []string{"", "a", "ab", "abc", "abc"} {
		x := held(nil, []byte("abc"))
		x.Crash(keep)
		want(t, "Crash of what is not sure", x, []byte(all), len(all))
	}
}

func TestP1103Cut(t *testing.T) {
	for n, all := range []string{"abcde", "bcde", "cde", "de"} {
		x := held([]byte("abc"), []byte("de"))
		wantCut(t, x, n, api.OK)
		want(t, "Cut", x, []byte(all), 3-n)
		x.Write([]byte("f"))
		want(t, "Write behind it", x, []byte(all+"f"), 3-n)
		x.Crash(1)
		want(t, "Crash behind it", x, []byte("abcd"[n:]), 4-n)
		x.Sync()
		wantCut(t, x, 4-n, api.OK)
		want(t, "Cut of all", x, nil, 0)
	}
}

func TestP1103CutErrors(t *testing.T) {
	x := held([]byte("abc"), []byte("de"))
	for _, n := range []int{math.MinInt, math.MinInt + 1, -6, -3, -1} {
		wantCut(t, x, n, api.ErrArg)
		wantCut(t, New(), n, api.ErrArg)
	}
	for _, n := range []int{4, 5, 6, 7, 1 << 32, math.MaxInt - 1, math.MaxInt} {
		wantCut(t, x, n, api.ErrState)
		wantCut(t, New(), n, api.ErrState)
	}
	want(t, "Cut with an error", x, []byte("abcde"), 3)
	wantCut(t, New(), 0, api.OK)
	wantCut(t, New(), 1, api.ErrState)
	wantCut(t, held(nil, []byte("ab")), 0, api.OK)
	wantCut(t, held(nil, []byte("ab")), 1, api.ErrState)
}

// TestP1103CutIsAtOnce: what is cut off is gone, and nothing else, whatever crashes behind it.
func TestP1103CutIsAtOnce(t *testing.T) {
	for keep := range 4 {
		x := held([]byte("abc"), []byte("de"))
		wantCut(t, x, 2, api.OK)
		x.Crash(keep)
		stay := "c" + "de"[:min(keep, 2)]
		want(t, "Cut and Crash", x, []byte(stay), len(stay))
	}
}

func TestP1104BehindACrash(t *testing.T) {
	for sure := range 20 {
		for loose := range 20 {
			for keep := -2; keep < 23; keep++ {
				a, b := mixed(sure), mixed(100 + loose)[:loose]
				x := held(a, b)
				x.Crash(keep)
				stay := min(max(keep, 0), loose)
				want(t, "Crash", x, slices.Concat(a, b[:stay]), sure+stay)
			}
		}
	}
}

// TestP1104SureStays goes through long rows of acts without a Cut: what was sure once is there at the end.
func TestP1104SureStays(t *testing.T) {
	for seed := range uint32(300) {
		x := New()
		var sure []byte
		w := seed
		for range 60 {
			w = w*1664525 + 1013904223
			n := int(w >> 26)
			switch w >> 24 & 3 {
			case 0:
				x.Sync()
				want(t, "Sync", x, x.Bytes(), x.Len())
			case 1:
				x.Crash(n - 10)
				want(t, "Crash", x, x.Bytes(), x.Len())
			default:
				x.Write(mixed(n))
			}
			all := x.Bytes()
			if x.Sure() < len(sure) || !bytes.HasPrefix(all, sure) {
				t.Fatalf("of %v, which was sure, there is %v", told(sure), told(all))
			}
			sure = all[:x.Sure()]
		}
	}
}

// TestTapesAsReckoned goes through all rows of four acts.
func TestTapesAsReckoned(t *testing.T) {
	acts := fewActs()
	n := len(acts)
	for row := range n * n * n * n {
		x, r, what := New(), &reckoned{}, ""
		for range 4 {
			a := acts[row%n]
			row /= n
			what += a.what + " "
			if e, w := a.of(x), a.likely(r); e != w {
				t.Fatalf("%s: %v, not %v", what, e, w)
			}
			want(t, what, x, r.bytes(), r.sure())
		}
	}
}

// anyAct is what a few bits tell.
func anyAct(w uint32) act {
	n := int(w >> 24 & 31)
	switch w & 7 {
	case 0:
		return syncOf()
	case 1:
		return crashOf(n - 4)
	case 2:
		return cutOf(n - 2)
	}
	return writeOf(mixed(n))
}

func TestLongRowsAsReckoned(t *testing.T) {
	for seed := range uint32(200) {
		x, r := New(), &reckoned{}
		w := seed
		for range 100 {
			w = w*1664525 + 1013904223
			a := anyAct(w>>12 ^ w)
			if e, likely := a.of(x), a.likely(r); e != likely {
				t.Fatalf("%s: %v, not %v", a.what, e, likely)
			}
			want(t, a.what, x, r.bytes(), r.sure())
		}
	}
}

func TestNilTape(t *testing.T) {
	var x *Tape
	x.Write([]byte("ab"))
	want(t, "Write", x, nil, 0)
	x.Sync()
	want(t, "Sync", x, nil, 0)
	for _, n := range []int{math.MinInt, -1, 0, 1, 2, math.MaxInt} {
		x.Crash(n)
		want(t, "Crash", x, nil, 0)
	}
	wantCut(t, x, math.MinInt, api.ErrArg)
	wantCut(t, x, -1, api.ErrArg)
	wantCut(t, x, 0, api.OK)
	wantCut(t, x, 1, api.ErrState)
	wantCut(t, x, math.MaxInt, api.ErrState)
	want(t, "Cut", x, nil, 0)
}

// TestTapesLeaveWhatWasHandedIn: neither the bytes that are written are changed, nor what lies behind them, and what becomes of them later is nothing to the tape.
func TestTapesLeaveWhatWasHandedIn(t *testing.T) {
	room := mixed(100)
	before := slices.Clone(room)
	x := New()
	x.Write(room[10:20])
	x.Sync()
	x.Write(room[30:35])
	x.Write([]byte("behind it"))
	x.Crash(7)
	x.Write([]byte("behind that"))
	wantCut(t, x, 3, api.OK)
	x.Sync()
	if !bytes.Equal(room, before) {
		t.Fatalf("what was handed in is %v, not %v any more", room, before)
	}
	all := x.Bytes()
	clear(room)
	want(t, "its bytes cleared", x, all, len(all))

	x = New()
	x.Write(before[:10])
	clear(before)
	want(t, "not sure, and cleared", x, mixed(100)[:10], 0)
}

// TestTapesLeaveWhatWasHandedOut: what was told stays so, whatever becomes of the tape, and what somebody writes behind it is nothing to the tape.
func TestTapesLeaveWhatWasHandedOut(t *testing.T) {
	for _, a := range fewActs() {
		for _, b := range fewActs() {
			x := held([]byte("abc"), []byte("defgh"))
			all := x.Bytes()
			a.of(x)
			x.Write([]byte("new"))
			b.of(x)
			x.Write([]byte("newer"))
			if string(all) != "abcdefgh" {
				t.Fatalf("%s, Write, %s: what was handed out is %q", a.what, b.what, all)
			}
		}
	}
	for _, x := range []*Tape{held([]byte("abc"), []byte("de")), held([]byte("abc"), nil), held(nil, []byte("abc")), New()} {
		all, sure := string(x.Bytes()), x.Sure()
		_ = append(x.Bytes(), "spare"...)
		x.Write([]byte("f"))
		_ = append(x.Bytes(), "room"...)
		want(t, "room behind what was told", x, []byte(all+"f"), sure)
	}
}

func TestExamplesOfTheChapter(t *testing.T) {
	x := New()
	x.Write([]byte("ab"))
	x.Sync()
	x.Write([]byte("cd"))
	x.Crash(1)
	want(t, "example 1", x, []byte("abc"), 3)
}

func FuzzTapes(f *testing.F) {
	f.Add([]byte{3, 40, 0, 0, 3, 40, 1, 41, 2, 35})
	f.Fuzz(func(t *testing.T, b []byte) {
		x, r := New(), &reckoned{}
		for i := 0; i+1 < len(b) && i < 400; i += 2 {
			a := anyAct(uint32(b[i]) | uint32(b[i+1])<<24)
			if e, likely := a.of(x), a.likely(r); e != likely {
				t.Fatalf("%s: %v, not %v", a.what, e, likely)
			}
			want(t, a.what, x, r.bytes(), r.sure())
		}
	})
}
