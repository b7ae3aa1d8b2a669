package pack

import (
	"bytes"
	"encoding/binary"
	"math"
	"math/big"
	"slices"
	"strconv"
	"testing"

	"tallyman/api"
)

const (
	least    = math.MinInt
	greatest = math.MaxInt
	topWord  = math.MaxUint64
)

// fronts are bytes that may stand ahead of what is put, such too as a short form's own.
func fronts() [][]byte {
	return [][]byte{nil, {}, {0}, {9}, {128}, {255, 255}, {1, 2, 3, 0}, bytes.Repeat([]byte{200}, 100)}
}

// manyWords are numbers at and about all powers of 2, and with each byte at each place.
func manyWords() []uint64 {
	var l []uint64
	for k := range 64 {
		for d := uint64(0); d <= 6; d++ {
			l = append(l, 1<<k+d-3)
		}
	}
	for place := range 8 {
		for d := range uint64(256) {
			l = append(l, d<<(8*place), d<<(8*place)|1<<63, topWord-d<<(8*place))
		}
	}
	for d := range uint64(1 << 15) {
		l = append(l, d)
	}
	slices.Sort(l)
	return slices.Compact(l)
}

// manyInts are numbers at and about all powers of 2, on both sides of 0.
func manyInts() []int {
	var l []int
	for k := range strconv.IntSize {
		for d := -3; d <= 3; d++ {
			l = append(l, 1<<k+d, -(1<<k)+d)
		}
	}
	for n := -3000; n <= 3000; n++ {
		l = append(l, n)
	}
	slices.Sort(l)
	return slices.Compact(l)
}

// listsOf are all lists of at most so many of these bytes.
func listsOf(signs []byte, most int) [][]byte {
	all, longest := [][]byte{nil}, [][]byte{nil}
	for range most {
		var longer [][]byte
		for _, b := range longest {
			for _, c := range signs {
				longer = append(longer, slices.Concat(b, []byte{c}))
			}
		}
		all, longest = append(all, longer...), longer
	}
	return all
}

// reckonedPut is P801 by its words: a remainder, and its digits.
func reckonedPut(b []byte, w uint64, k int) []byte {
	k = min(8, max(0, k))
	power := new(big.Int).Exp(big.NewInt(256), big.NewInt(int64(k)), nil)
	n := new(big.Int).SetUint64(w)
	n.Mod(n, power)
	return slices.Concat(b, n.FillBytes(make([]byte, k)))
}

func reckonedTake(b []byte, k int) uint64 {
	return new(big.Int).SetBytes(b[:k]).Uint64()
}

// reckonedUnvar is P802 by its words, byte by byte.
func reckonedUnvar(b []byte) (uint64, []byte, api.Errno) {
	for i, c := range b {
		switch {
		case i == 9 && c > 1, i > 0 && c == 0:
			return 0, nil, api.ErrForm
		case c < 128:
			w, _ := binary.Uvarint(b[:i+1])
			return w, b[i+1:], api.OK
		}
	}
	return 0, nil, api.ErrShort
}

func reckonedZig(n int) uint64 {
	twice := new(big.Int).Mul(big.NewInt(2), big.NewInt(int64(n)))
	if n < 0 {
		twice.Neg(twice).Sub(twice, big.NewInt(1))
	}
	return twice.Uint64()
}

func wantPut(t *testing.T, b []byte, w uint64, k int, want ...byte) {
	t.Helper()
	if got := Put(b, w, k); !bytes.Equal(got, want) {
		t.Errorf("Put(%d, %d, %d): %d, not %d", b, w, k, got, want)
	}
}

func wantVar(t *testing.T, b []byte, w uint64, want ...byte) {
	t.Helper()
	if got := Var(b, w); !bytes.Equal(got, want) {
		t.Errorf("Var(%d, %d): %d, not %d", b, w, got, want)
	}
}

// wantTaken: with an error there is no number, and not a byte behind it.
func wantTaken(t *testing.T, what string, b []byte, w uint64, rest []byte, e api.Errno, want uint64, wantRest []byte, wantE api.Errno) {
	t.Helper()
	if w != want || !bytes.Equal(rest, wantRest) || e != wantE {
		t.Errorf("%s of %d: %d %d %d, not %d %d %d", what, b, w, rest, e, want, wantRest, wantE)
	}
	if e != api.OK && rest != nil {
		t.Errorf("%s of %d: beside error %d there is a list", what, b, e)
	}
}

func wantTake(t *testing.T, b []byte, k int, want uint64, wantRest []byte, wantE api.Errno) {
	t.Helper()
	w, rest, e := Take(b, k)
	wantTaken(t, "Take "+strconv.Itoa(k), b, w, rest, e, want, wantRest, wantE)
}

func wantUnvar(t *testing.T, b []byte, want uint64, wantRest []byte, wantE api.Errno) {
	t.Helper()
	w, rest, e := Unvar(b)
	wantTaken(t, "Unvar", b, w, rest, e, want, wantRest, wantE)
}

func wantZig(t *testing.T, n int, w uint64) {
	t.Helper()
	if got := Zig(n); got != w {
		t.Errorf("Zig(%d): %d, not %d", n, got, w)
	}
	if got := Unzig(w); got != n {
		t.Errorf("Unzig(%d): %d, not %d", w, got, n)
	}
}

func TestP801Put(t *testing.T) {
	wantPut(t, nil, 0, 1, 0)
	wantPut(t, nil, 7, 1, 7)
	wantPut(t, nil, 255, 1, 255)
	wantPut(t, []byte{9}, 515, 2, 9, 2, 3)
	wantPut(t, []byte{9, 8}, 1, 4, 9, 8, 0, 0, 0, 1)
	wantPut(t, nil, 0x0102030405060708, 8, 1, 2, 3, 4, 5, 6, 7, 8)
	wantPut(t, nil, topWord, 8, 255, 255, 255, 255, 255, 255, 255, 255)
	wantPut(t, nil, 1<<63, 8, 128, 0, 0, 0, 0, 0, 0, 0)
	// What is above the greatest number of so many bytes leaves its remainder.
	wantPut(t, nil, 256, 1, 0)
	wantPut(t, nil, 257, 1, 1)
	wantPut(t, nil, 1<<40+7, 1, 7)
	wantPut(t, nil, 1<<24+0x0a0b0c, 3, 10, 11, 12)
	wantPut(t, nil, 0x0102030405060708, 7, 2, 3, 4, 5, 6, 7, 8)
	wantPut(t, nil, 0x0102030405060708, 4, 5, 6, 7, 8)
	// In no bytes there is no number.
	wantPut(t, nil, 7, 0)
	wantPut(t, []byte{}, 7, 0)
	wantPut(t, []byte{9}, 7, 0, 9)
}

func TestP801PutCountsK(t *testing.T) {
	for _, k := range []int{-1, -2, -8, -255, -256, -1 << 32, -1<<32 + 1, least, least + 1} {
		wantPut(t, nil, topWord, k)
		wantPut(t, []byte{9, 1}, topWord, k, 9, 1)
	}
	for _, k := range []int{9, 10, 16, 20, 255, 256, 257, 1 << 32, 1<<32 + 1, greatest - 1, greatest} {
		wantPut(t, nil, 7, k, 0, 0, 0, 0, 0, 0, 0, 7)
		wantPut(t, []byte{9, 1}, topWord-1, k, 9, 1, 255, 255, 255, 255, 255, 255, 255, 254)
	}
}

func TestP801PutAsReckoned(t *testing.T) {
	for _, w := range manyWords() {
		for k := -2; k <= 10; k++ {
			wantPut(t, []byte{5, 6}, w, k, reckonedPut([]byte{5, 6}, w, k)...)
		}
	}
	for _, b := range fronts() {
		for k := -2; k <= 10; k++ {
			wantPut(t, b, 0xfedcba9876543210, k, reckonedPut(b, 0xfedcba9876543210, k)...)
		}
	}
}

func TestP801Take(t *testing.T) {
	b := []byte{1, 2, 3, 4, 5, 6, 7, 8, 9}
	wantTake(t, b, 0, 0, b, api.OK)
	wantTake(t, b, 1, 1, b[1:], api.OK)
	wantTake(t, b, 2, 258, b[2:], api.OK)
	wantTake(t, b, 3, 66051, b[3:], api.OK)
	wantTake(t, b, 7, 0x01020304050607, b[7:], api.OK)
	wantTake(t, b, 8, 0x0102030405060708, b[8:], api.OK)
	wantTake(t, b[:8], 8, 0x0102030405060708, nil, api.OK)
	wantTake(t, []byte{255}, 1, 255, nil, api.OK)
	wantTake(t, []byte{128, 0, 0, 0, 0, 0, 0, 0}, 8, 1<<63, nil, api.OK)
	wantTake(t, bytes.Repeat([]byte{255}, 8), 8, topWord, nil, api.OK)
	// A 0 ahead counts as any byte.
	wantTake(t, []byte{0, 0, 7, 0}, 3, 7, []byte{0}, api.OK)
	wantTake(t, make([]byte, 9), 8, 0, []byte{0}, api.OK)
	wantTake(t, nil, 0, 0, nil, api.OK)
	wantTake(t, []byte{}, 0, 0, nil, api.OK)
}

func TestP801TakeErrors(t *testing.T) {
	for n := range 12 {
		b := bytes.Repeat([]byte{7}, n)
		// ErrArg is named first, so it is told of too few bytes as well.
		for _, k := range []int{-1, -2, -8, -256, -1 << 32, least, least + 1, 9, 10, 11, 16, 256, 257, 1 << 32, 1<<32 + 1, greatest - 1, greatest} {
			wantTake(t, b, k, 0, nil, api.ErrArg)
		}
		for k := n + 1; k <= 8; k++ {
			wantTake(t, b, k, 0, nil, api.ErrShort)
		}
		for k := 0; k <= min(n, 8); k++ {
			wantTake(t, b, k, reckonedTake(b, k), b[k:], api.OK)
		}
	}
	// Bytes that lie in the list's spare room are not there.
	room := []byte{1, 2, 3, 4, 5, 6, 7, 8}
	wantTake(t, room[:1], 2, 0, nil, api.ErrShort)
	wantTake(t, room[:0], 1, 0, nil, api.ErrShort)
	wantTake(t, room[:7], 8, 0, nil, api.ErrShort)
}

func TestP802Var(t *testing.T) {
	for _, c := range []struct {
		w    uint64
		want []byte
	}{
		{0, []byte{0}}, {1, []byte{1}}, {126, []byte{126}}, {127, []byte{127}},
		{128, []byte{128, 1}}, {129, []byte{129, 1}}, {255, []byte{255, 1}}, {256, []byte{128, 2}}, {300, []byte{172, 2}},
		{16383, []byte{255, 127}}, {16384, []byte{128, 128, 1}}, {16385, []byte{129, 128, 1}},
		{1<<21 - 1, []byte{255, 255, 127}}, {1 << 21, []byte{128, 128, 128, 1}},
		{1<<28 - 1, []byte{255, 255, 255, 127}}, {1 << 28, []byte{128, 128, 128, 128, 1}},
		{1<<32 - 1, []byte{255, 255, 255, 255, 15}}, {1 << 32, []byte{128, 128, 128, 128, 16}},
		{1<<35 - 1, []byte{255, 255, 255, 255, 127}}, {1 << 35, []byte{128, 128, 128, 128, 128, 1}},
		{1<<42 - 1, []byte{255, 255, 255, 255, 255, 127}}, {1 << 42, []byte{128, 128, 128, 128, 128, 128, 1}},
		{1<<49 - 1, []byte{255, 255, 255, 255, 255, 255, 127}}, {1 << 49, []byte{128, 128, 128, 128, 128, 128, 128, 1}},
		{1<<56 - 1, []byte{255, 255, 255, 255, 255, 255, 255, 127}}, {1 << 56, []byte{128, 128, 128, 128, 128, 128, 128, 128, 1}},
		{1<<63 - 1, []byte{255, 255, 255, 255, 255, 255, 255, 255, 127}}, {1 << 63, []byte{128, 128, 128, 128, 128, 128, 128, 128, 128, 1}},
		{topWord, []byte{255, 255, 255, 255, 255, 255, 255, 255, 255, 1}},
	} {
		wantVar(t, nil, c.w, c.want...)
		wantUnvar(t, c.want, c.w, nil, api.OK)
		for _, b := range fronts() {
			wantVar(t, b, c.w, slices.Concat(b, c.want)...)
			wantUnvar(t, slices.Concat(c.want, b), c.w, b, api.OK)
		}
	}
}

func TestP802VarAsReckoned(t *testing.T) {
	for _, w := range manyWords() {
		wantVar(t, nil, w, binary.AppendUvarint(nil, w)...)
		wantVar(t, []byte{128, 0}, w, binary.AppendUvarint([]byte{128, 0}, w)...)
	}
}

func TestP802UnvarErrors(t *testing.T) {
	wantUnvar(t, nil, 0, nil, api.ErrShort)
	wantUnvar(t, []byte{}, 0, nil, api.ErrShort)
	wantUnvar(t, []byte{172}, 0, nil, api.ErrShort)
	wantUnvar(t, []byte{128}, 0, nil, api.ErrShort)
	wantUnvar(t, []byte{128, 128}, 0, nil, api.ErrShort)
	wantUnvar(t, []byte{172, 0}, 0, nil, api.ErrForm)
	wantUnvar(t, []byte{128, 0, 5}, 0, nil, api.ErrForm)
	wantUnvar(t, []byte{255, 255, 0}, 0, nil, api.ErrForm)
	// The first byte may be a 0, and so may what is behind the last one.
	wantUnvar(t, []byte{0}, 0, nil, api.OK)
	wantUnvar(t, []byte{0, 0}, 0, []byte{0}, api.OK)
	wantUnvar(t, []byte{128, 1, 0}, 128, []byte{0}, api.OK)
	// A byte of 128 is a group of 0 with another one behind it, and that is no 0.
	wantUnvar(t, []byte{128, 128, 1}, 1<<14, nil, api.OK)
	// Bytes that lie in the list's spare room are not there.
	room := []byte{172, 2, 0}
	wantUnvar(t, room[:1], 0, nil, api.ErrShort)
	wantUnvar(t, room[:0], 0, nil, api.ErrShort)
}

// TestP802TheTenthByte tries each one behind nine that go on, and as many bytes behind it as may mislead.
func TestP802TheTenthByte(t *testing.T) {
	for _, c := range []byte{128, 129, 255} {
		for n := range 10 {
			wantUnvar(t, bytes.Repeat([]byte{c}, n), 0, nil, api.ErrShort)
		}
		for tenth := range 256 {
			for _, rest := range [][]byte{nil, {0}, {1}, {128, 1}, {5, 6}} {
				b := slices.Concat(bytes.Repeat([]byte{c}, 9), []byte{byte(tenth)}, rest)
				if tenth != 1 {
					wantUnvar(t, b, 0, nil, api.ErrForm)
					continue
				}
				w, _ := binary.Uvarint(b[:10])
				wantUnvar(t, b, w, rest, api.OK)
			}
		}
	}
	// At the ninth byte any group may be, but none of 0 at the end.
	for ninth := range 256 {
		b := append(bytes.Repeat([]byte{129}, 8), byte(ninth))
		w, rest, e := reckonedUnvar(b)
		wantUnvar(t, b, w, rest, e)
	}
	// What is wrong first is told: a 0 ahead of the tenth byte, or an end.
	wantUnvar(t, []byte{128, 0, 128, 128, 128, 128, 128, 128, 128, 2}, 0, nil, api.ErrForm)
	wantUnvar(t, bytes.Repeat([]byte{255}, 1000), 0, nil, api.ErrForm)
	wantUnvar(t, bytes.Repeat([]byte{128}, 1000), 0, nil, api.ErrForm)
}

func TestP802UnvarAsReckoned(t *testing.T) {
	all := listsOf([]byte{0, 1, 2, 127, 128, 129, 255}, 5)
	for c := range 256 {
		for d := range 256 {
			all = append(all, []byte{byte(c), byte(d)}, []byte{byte(c), byte(d), 1})
		}
	}
	for _, b := range listsOf([]byte{0, 1, 2, 127, 128, 255}, 3) {
		for n := 6; n <= 9; n++ {
			all = append(all, slices.Concat(bytes.Repeat([]byte{200}, n), b))
		}
	}
	for _, b := range all {
		w, rest, e := reckonedUnvar(b)
		wantUnvar(t, b, w, rest, e)
	}
}

func TestP803Zig(t *testing.T) {
	wantZig(t, 0, 0)
	wantZig(t, -1, 1)
	wantZig(t, 1, 2)
	wantZig(t, -2, 3)
	wantZig(t, 2, 4)
	wantZig(t, -3, 5)
	wantZig(t, 3, 6)
	wantZig(t, -64, 127)
	wantZig(t, 64, 128)
	wantZig(t, api.Far, 1<<21)
	wantZig(t, -api.Far, 1<<21-1)
	wantZig(t, math.MaxInt32, 1<<32-2)
	wantZig(t, math.MinInt32, 1<<32-1)
	if strconv.IntSize == 64 {
		bound := 1 << 62
		wantZig(t, bound-1, 1<<63-2)
		wantZig(t, -bound, 1<<63-1)
		wantZig(t, bound, 1<<63)
		wantZig(t, -bound-1, 1<<63+1)
		wantZig(t, greatest-1, topWord-3)
		wantZig(t, least+1, topWord-2)
		wantZig(t, greatest, topWord-1)
		wantZig(t, least, topWord)
	}
}

func TestP803ZigAsReckoned(t *testing.T) {
	for _, n := range manyInts() {
		wantZig(t, n, reckonedZig(n))
	}
}

func TestP804WhatIsPutIsTaken(t *testing.T) {
	for _, w := range manyWords() {
		for _, rest := range fronts() {
			for k := range 9 {
				remainder := w
				if k < 8 {
					remainder = w % (1 << (8 * k))
				}
				wantTake(t, slices.Concat(Put(nil, w, k), rest), k, remainder, rest, api.OK)
			}
			wantUnvar(t, slices.Concat(Var(nil, w), rest), w, rest, api.OK)
		}
	}
}

func TestP804WhatIsTakenIsPut(t *testing.T) {
	some := slices.Concat(listsOf([]byte{0, 1, 127, 128, 255}, 5), [][]byte{bytes.Repeat([]byte{250, 3}, 7), bytes.Repeat([]byte{0}, 9), bytes.Repeat([]byte{255}, 8)})
	for _, w := range manyWords() {
		some = append(some, slices.Concat(Var(nil, w), []byte{7}))
	}
	for _, b := range some {
		for k := range 9 {
			if w, rest, e := Take(b, k); e == api.OK && !bytes.Equal(slices.Concat(Put(nil, w, k), rest), b) {
				t.Fatalf("Take %d of %d: %d and %d, which is put in another way", k, b, w, rest)
			}
		}
		if w, rest, e := Unvar(b); e == api.OK && !bytes.Equal(slices.Concat(Var(nil, w), rest), b) {
			t.Fatalf("Unvar of %d: %d and %d, whose short form is another one", b, w, rest)
		}
	}
}

// TestP804OneBehindTheOther puts all numbers into one list, and takes them from it.
func TestP804OneBehindTheOther(t *testing.T) {
	var b []byte
	numbers := manyWords()[:3000]
	for i, w := range numbers {
		if i%2 == 0 {
			b = Var(b, w)
		} else {
			b = Put(b, w, 8)
		}
	}
	for i, want := range numbers {
		w, rest, e := Unvar(b)
		if i%2 == 1 {
			w, rest, e = Take(b, 8)
		}
		if w != want || e != api.OK {
			t.Fatalf("the number %d: %d and error %d, not %d", i, w, e, want)
		}
		b = rest
	}
	if len(b) > 0 {
		t.Errorf("bytes are left: %d", b)
	}
}

func TestP804AGreaterNumberIsNotShorter(t *testing.T) {
	long := 0
	for _, w := range manyWords() {
		n := len(Var(nil, w))
		if n < long {
			t.Errorf("Var of %d: %d bytes, but one below it has %d", w, n, long)
		}
		long = n
	}
	if long != 10 {
		t.Errorf("the greatest number's short form has %d bytes, not 10", long)
	}
}

func TestP804ZigAndBack(t *testing.T) {
	for _, n := range manyInts() {
		if got := Unzig(Zig(n)); got != n {
			t.Errorf("Unzig of Zig of %d: %d", n, got)
		}
	}
	if strconv.IntSize < 64 {
		return
	}
	for _, w := range manyWords() {
		if got := Zig(Unzig(w)); got != w {
			t.Errorf("Zig of Unzig of %d: %d", w, got)
		}
	}
}

// TestPuttingLeavesWhatWasHandedIn looks at the spare room too, which two lists may share.
func TestPuttingLeavesWhatWasHandedIn(t *testing.T) {
	for spare := range 40 {
		room := bytes.Repeat([]byte{77}, 3+spare)
		b := room[:3]
		for k := -1; k <= 9; k++ {
			one, other := Put(b, 1, k), Put(b, topWord, k)
			if !bytes.Equal(one, reckonedPut(b, 1, k)) || !bytes.Equal(other, reckonedPut(b, topWord, k)) {
				t.Errorf("Put in %d bytes, twice behind one list: %d and %d", k, one, other)
			}
		}
		for _, w := range []uint64{0, 1, 300, topWord} {
			one, other := Var(b, w), Var(b, 5)
			if !bytes.Equal(one, binary.AppendUvarint(slices.Clone(b), w)) || !bytes.Equal(other, []byte{77, 77, 77, 5}) {
				t.Errorf("Var, twice behind one list: %d and %d", one, other)
			}
		}
		if !bytes.Equal(room, bytes.Repeat([]byte{77}, 3+spare)) {
			t.Fatalf("what was handed in was changed: %d", room)
		}
	}
}

func TestTakingLeavesWhatWasHandedIn(t *testing.T) {
	for _, w := range manyWords() {
		b := append(Var(nil, w), 1, 2, 3, 4, 5, 6, 7, 8)
		was := slices.Clone(b)
		Unvar(b)
		for k := -1; k <= 9; k++ {
			Take(b, k)
		}
		if !bytes.Equal(b, was) {
			t.Fatalf("what was handed in was changed: %d, not %d", b, was)
		}
	}
}

func TestExamplesOfTheChapter(t *testing.T) {
	wantVar(t, nil, 300, 172, 2)
	if got := Zig(-3); got != 5 {
		t.Errorf("Zig(-3): %d, not 5", got)
	}
}

func FuzzBytes(f *testing.F) {
	f.Add([]byte{172, 2, 5}, 2)
	f.Add([]byte{255, 255, 255, 255, 255, 255, 255, 255, 255, 1}, 8)
	f.Add([]byte{128, 0}, 9)
	f.Fuzz(func(t *testing.T, b []byte, k int) {
		w, rest, e := reckonedUnvar(b)
		wantUnvar(t, b, w, rest, e)
		switch {
		case k < 0 || k > 8:
			wantTake(t, b, k, 0, nil, api.ErrArg)
		case k > len(b):
			wantTake(t, b, k, 0, nil, api.ErrShort)
		default:
			wantTake(t, b, k, reckonedTake(b, k), b[k:], api.OK)
		}
	})
}

func FuzzNumbers(f *testing.F) {
	f.Add([]byte{9}, uint64(300), 2, -3)
	f.Add([]byte{}, uint64(topWord), 20, least)
	f.Fuzz(func(t *testing.T, b []byte, w uint64, k, n int) {
		wantPut(t, b, w, k, reckonedPut(b, w, k)...)
		wantVar(t, b, w, binary.AppendUvarint(slices.Clone(b), w)...)
		wantZig(t, n, reckonedZig(n))
	})
}
