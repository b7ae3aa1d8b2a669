package crc

import (
	"bytes"
	"hash/crc32"
	"math"
	"math/big"
	"slices"
	"strings"
	"testing"
)

const (
	least    = math.MinInt
	greatest = math.MaxInt
	topSum   = math.MaxUint32
)

// mixed are so many bytes, all of them unlike their neighbours.
func mixed(n int) []byte {
	b := make([]byte, n)
	w := uint32(n) + 1
	for i := range b {
		w = w*1664525 + 1013904223
		b[i] = byte(w >> 24)
	}
	return b
}

// manyRows are bytes of many lengths, some with one bit alone.
func manyRows() [][]byte {
	rows := [][]byte{nil, {}, []byte("123456789"), bytes.Repeat([]byte{0}, 33), bytes.Repeat([]byte{255}, 33)}
	for n := range 70 {
		rows = append(rows, mixed(n))
	}
	for at := range 64 {
		row := make([]byte, 8)
		row[at/8] = 1 << (at % 8)
		rows = append(rows, row)
	}
	return rows
}

// manySums are numbers at and about all powers of 2, and some between.
func manySums() []uint32 {
	l := []uint32{0x12345678, 0xaaaaaaaa, 0x55555555, 0xdeadbeef, 0xf0f0f0f0}
	for k := range 32 {
		for d := uint32(0); d <= 2; d++ {
			l = append(l, 1<<k+d-1)
		}
		l = append(l, topSum<<k, topSum>>k)
	}
	slices.Sort(l)
	return slices.Compact(l)
}

// stepped is the register behind some bytes, by the chapter's words, in numbers without bits.
func stepped(register uint64, b []byte) uint64 {
	for _, c := range b {
		register = register - register%256 + uint64(byte(register%256)^c)
		for range 8 {
			odd := register%2 == 1
			register /= 2
			if odd {
				register ^= 3988292384
			}
		}
	}
	return register
}

func reckonedSum(b []byte) uint32 {
	return uint32(1<<32 - 1 - stepped(1<<32-1, b))
}

func reckonedMore(sum uint32, b []byte) uint32 {
	return uint32(1<<32 - 1 - stepped(1<<32-1-uint64(sum), b))
}

// reckonedFlip is P902 by its words, bit by bit, with places that have no greatest number.
func reckonedFlip(b []byte, at int, by uint32) []byte {
	flipped := slices.Clone(b)
	for i := range 32 {
		n := new(big.Int).Add(big.NewInt(int64(at)), big.NewInt(int64(i)))
		if by>>i%2 == 0 || n.Sign() < 0 || n.Cmp(big.NewInt(int64(8*len(b)))) >= 0 {
			continue
		}
		flipped[n.Int64()/8] ^= 1 << (n.Int64() % 8)
	}
	return flipped
}

func laidOver(rows ...[]byte) []byte {
	over := make([]byte, len(rows[0]))
	for _, row := range rows {
		for i, c := range row {
			over[i] ^= c
		}
	}
	return over
}

func wantSum(t *testing.T, b []byte, want uint32) {
	t.Helper()
	if got := Sum(b); got != want {
		t.Errorf("Sum(%d): %d, not %d", b, got, want)
	}
}

func wantMore(t *testing.T, sum uint32, b []byte, want uint32) {
	t.Helper()
	if got := More(sum, b); got != want {
		t.Errorf("More(%d, %d): %d, not %d", sum, b, got, want)
	}
}

func wantFlip(t *testing.T, b []byte, at int, by uint32, want ...byte) {
	t.Helper()
	if got := Flip(b, at, by); !bytes.Equal(got, want) {
		t.Errorf("Flip(%d, %d, %d): %d, not %d", b, at, by, got, want)
	}
}

func TestP901Sum(t *testing.T) {
	wantSum(t, nil, 0)
	wantSum(t, []byte{}, 0)
	wantSum(t, []byte{0}, 3523407757)
	wantSum(t, []byte{255}, 4278190080)
	wantSum(t, []byte{0, 0, 0, 0}, 558161692)
	wantSum(t, []byte{255, 255, 255, 255}, 4294967295)
	wantSum(t, []byte("a"), 0xe8b7be43)
	wantSum(t, []byte("abc"), 0x352441c2)
	wantSum(t, []byte("123456789"), 3421780262)
	wantSum(t, []byte("The quick brown fox jumps over the lazy dog"), 0x414fa339)
}

func TestP901SumAsReckoned(t *testing.T) {
	for c := range 256 {
		wantSum(t, []byte{byte(c)}, reckonedSum([]byte{byte(c)}))
		for d := range 256 {
			wantSum(t, []byte{byte(c), byte(d)}, reckonedSum([]byte{byte(c), byte(d)}))
		}
	}
	for _, row := range manyRows() {
		wantSum(t, row, reckonedSum(row))
		wantSum(t, row, crc32.ChecksumIEEE(row))
	}
	for _, n := range []int{255, 256, 257, 1000, 4096, 1<<16 - 1, 1 << 16, 1<<16 + 1, 1 << 20} {
		for _, row := range [][]byte{mixed(n), make([]byte, n), bytes.Repeat([]byte{255}, n)} {
			if got, want := Sum(row), reckonedSum(row); got != want || got != crc32.ChecksumIEEE(row) {
				t.Errorf("Sum of %d bytes from %d on: %d, not %d", n, row[0], got, want)
			}
		}
	}
}

func TestP901More(t *testing.T) {
	wantMore(t, 0, nil, 0)
	wantMore(t, 0, []byte("123456789"), 3421780262)
	wantMore(t, Sum([]byte("1234")), []byte("56789"), 3421780262)
	wantMore(t, topSum, nil, topSum)
	// Its register is 0, which a byte of 0 leaves so.
	wantMore(t, topSum, []byte{0}, topSum)
	wantMore(t, topSum, []byte{255}, 3539800178)
	wantMore(t, Sum([]byte{0}), []byte{0, 0, 0}, 558161692)
}

// TestP901MoreOfAnySum: each number is the sum of some bytes, so each may come in.
func TestP901MoreOfAnySum(t *testing.T) {
	for _, sum := range manySums() {
		wantMore(t, sum, nil, sum)
		wantMore(t, sum, []byte{}, sum)
		for c := range 256 {
			wantMore(t, sum, []byte{byte(c)}, reckonedMore(sum, []byte{byte(c)}))
		}
		for _, row := range manyRows() {
			wantMore(t, sum, row, reckonedMore(sum, row))
			wantMore(t, sum, row, crc32.Update(sum, crc32.IEEETable, row))
		}
	}
}

func TestP902Flip(t *testing.T) {
	wantFlip(t, []byte{0, 0}, 0, 1, 1, 0)
	wantFlip(t, []byte{0, 0}, 7, 1, 128, 0)
	wantFlip(t, []byte{0, 0}, 8, 1, 0, 1)
	wantFlip(t, []byte{0, 0}, 15, 1, 0, 128)
	wantFlip(t, []byte{0, 0}, 7, 3, 128, 1)
	wantFlip(t, []byte{255, 255}, 7, 3, 127, 254)
	wantFlip(t, []byte{9, 8, 7, 6}, 0, 0, 9, 8, 7, 6)
	wantFlip(t, []byte{0, 0, 0, 0}, 0, topSum, 255, 255, 255, 255)
	wantFlip(t, make([]byte, 6), 4, topSum, 240, 255, 255, 255, 15, 0)
	wantFlip(t, make([]byte, 6), 7, topSum, 128, 255, 255, 255, 127, 0)
	wantFlip(t, make([]byte, 6), 9, 1<<31|1, 0, 2, 0, 0, 0, 1)
	wantFlip(t, make([]byte, 5), 0, 0x04030201, 1, 2, 3, 4, 0)
	wantFlip(t, make([]byte, 5), 1, 0x04030201, 2, 4, 6, 8, 0)
}

// TestP902FlipBeyond: a bit that there is not is not turned, and those beside it are.
func TestP902FlipBeyond(t *testing.T) {
	wantFlip(t, nil, 0, topSum)
	wantFlip(t, []byte{}, -5, topSum)
	wantFlip(t, []byte{1}, -1, 2, 0)
	wantFlip(t, []byte{1}, -1, 1, 1)
	wantFlip(t, []byte{1}, 8, 1, 1)
	wantFlip(t, []byte{0}, 7, 3, 128)
	wantFlip(t, []byte{0, 0}, -31, topSum, 1, 0)
	wantFlip(t, []byte{0, 0}, -32, topSum, 0, 0)
	wantFlip(t, []byte{0, 0}, -30, topSum, 3, 0)
	wantFlip(t, []byte{0, 0}, -23, topSum, 255, 1)
	wantFlip(t, []byte{0, 0}, 15, topSum, 0, 128)
	wantFlip(t, []byte{0, 0}, 16, topSum, 0, 0)
	for _, at := range []int{least, least + 1, least + 7, least + 8, least + 31, least + 32, -1 << 40, -1 << 32, 1 << 32, 1<<32 + 1, 1 << 35, 1 << 40, greatest - 32, greatest - 31, greatest - 8, greatest - 7, greatest - 1, greatest} {
		wantFlip(t, []byte{5, 6, 7, 8, 9, 10}, at, topSum, 5, 6, 7, 8, 9, 10)
		wantFlip(t, nil, at, topSum)
	}
}

func TestP902FlipAsReckoned(t *testing.T) {
	for n := range 8 {
		row := mixed(n)
		for at := -40; at <= 8*n+8; at++ {
			for _, by := range manySums() {
				wantFlip(t, row, at, by, reckonedFlip(row, at, by)...)
			}
		}
	}
	row := mixed(300)
	for at := -35; at <= 2405; at++ {
		wantFlip(t, row, at, 0x80c30501, reckonedFlip(row, at, 0x80c30501)...)
	}
}

// TestP902FlipIsNewMemory: whether something is turned or not, and the spare room too.
func TestP902FlipIsNewMemory(t *testing.T) {
	for _, at := range []int{least, -33, -1, 0, 3, 23, 24, 1000, greatest} {
		for _, by := range []uint32{0, 1, topSum} {
			room := []byte{1, 2, 3, 4, 5, 6, 7, 8}
			for n := range 4 {
				one, other := Flip(room[:n], at, by), Flip(room[:n], at, by)
				for i := range one {
					one[i] += 100
				}
				_ = append(one, 99)
				if !bytes.Equal(other, reckonedFlip(room[:n], at, by)) {
					t.Errorf("Flip of %d bytes at %d: a change of another one's bytes is seen in %d", n, at, other)
				}
				_ = append(other, 98)
			}
			if !bytes.Equal(room, []byte{1, 2, 3, 4, 5, 6, 7, 8}) {
				t.Errorf("Flip at %d by %d: what was handed in is now %d", at, by, room)
			}
		}
	}
}

func TestP903MoreOfASumIsTheSumOfAll(t *testing.T) {
	for _, row := range manyRows() {
		all := Sum(row)
		for n := range len(row) + 1 {
			wantMore(t, Sum(row[:n]), row[n:], all)
			for m := range n + 1 {
				wantMore(t, More(Sum(row[:m]), row[m:n]), row[n:], all)
			}
		}
		one := Sum(nil)
		for _, c := range row {
			one = More(one, []byte{c})
		}
		if one != all {
			t.Errorf("More, byte by byte, of %d: %d, not %d", row, one, all)
		}
	}
}

func TestP903RowsLaidOverOneAnother(t *testing.T) {
	for n := range 40 {
		rows := [][]byte{make([]byte, n), bytes.Repeat([]byte{255}, n), mixed(n), mixed(n + 40)[:n], mixed(n + 80)[:n], bytes.Repeat([]byte{1}, n)}
		for _, a := range rows {
			for _, b := range rows {
				for _, c := range rows {
					wantSum(t, laidOver(a, b, c), Sum(a)^Sum(b)^Sum(c))
				}
			}
		}
	}
}

// TestP903ShortRowsHaveUnlikeSums: those of at most two bytes differ within 32 bits, all of them.
func TestP903ShortRowsHaveUnlikeSums(t *testing.T) {
	for n := range 3 {
		seen := map[uint32]bool{}
		for w := range 1 << (8 * n) {
			row := []byte{byte(w), byte(w >> 8)}[:n]
			if seen[Sum(row)] {
				t.Errorf("Sum(%d): there is such a sum already", row)
			}
			seen[Sum(row)] = true
		}
	}
}

func TestP903FlippedRowsHaveUnlikeSums(t *testing.T) {
	for n := range 12 {
		row := mixed(n)
		for at := -40; at <= 8*n+8; at++ {
			for _, by := range manySums() {
				other := Flip(row, at, by)
				if alike := bytes.Equal(other, row); alike != (Sum(other) == Sum(row)) {
					t.Errorf("Sum(%d) and Sum(%d): %d and %d", row, other, Sum(row), Sum(other))
				}
			}
		}
	}
}

// TestP903NoFlipIsHidden asks it of all numbers to flip by at once: what a Sum differs by is put together of what it differs by at each bit, so none of these may be put together of the others.
func TestP903NoFlipIsHidden(t *testing.T) {
	for n := 1; n <= 60; n++ {
		row := mixed(n)
		for at := 0; at <= max(0, 8*n-32); at++ {
			var held [32]uint32
			for i := range min(32, 8*n) {
				d := Sum(row) ^ Sum(Flip(row, at+i, 1))
				for k := 31; k >= 0; k-- {
					if d>>k%2 == 0 {
						continue
					}
					if held[k] == 0 {
						held[k] = d
						break
					}
					d ^= held[k]
				}
				if d == 0 {
					t.Fatalf("of %d bytes the bit %d: its flip is hidden by others from %d on", n, at+i, at)
				}
			}
		}
	}
}

func TestP903FlippedTwiceIsAsItWas(t *testing.T) {
	for _, row := range manyRows() {
		for _, at := range []int{least, -31, -7, 0, 1, 12, 64, 200, greatest} {
			for _, by := range []uint32{0, 1, 0x80000001, 0x12345678, topSum} {
				wantFlip(t, Flip(row, at, by), at, by, row...)
			}
		}
	}
}

func TestSumsLeaveWhatWasHandedIn(t *testing.T) {
	for _, row := range manyRows() {
		was := slices.Clone(row)
		room := append(slices.Clone(row), 1, 2, 3)
		Sum(row)
		More(7, room[:len(row)])
		if !bytes.Equal(row, was) || !bytes.Equal(room, append(was, 1, 2, 3)) {
			t.Fatalf("what was handed in was changed: %d and %d, not %d", row, room, was)
		}
		// What lies in the spare room does not count.
		wantSum(t, room[:len(row)], reckonedSum(row))
	}
}

func TestExampleOfTheChapter(t *testing.T) {
	wantSum(t, []byte("123456789"), 3421780262)
	// Nothing is kept from call to call.
	wantSum(t, []byte(strings.Repeat("x", 100)), reckonedSum([]byte(strings.Repeat("x", 100))))
	wantSum(t, []byte("123456789"), 3421780262)
}

func FuzzSums(f *testing.F) {
	f.Add([]byte("123456789"), 4, uint32(0))
	f.Add([]byte{}, -1, uint32(topSum))
	f.Fuzz(func(t *testing.T, b []byte, n int, sum uint32) {
		wantSum(t, b, reckonedSum(b))
		wantMore(t, sum, b, reckonedMore(sum, b))
		n = min(len(b), max(0, n))
		wantMore(t, Sum(b[:n]), b[n:], reckonedSum(b))
	})
}

func FuzzFlip(f *testing.F) {
	f.Add([]byte{0, 0}, 7, uint32(3))
	f.Add([]byte{1}, least, uint32(topSum))
	f.Add([]byte{1}, greatest, uint32(topSum))
	f.Fuzz(func(t *testing.T, b []byte, at int, by uint32) {
		wantFlip(t, b, at, by, reckonedFlip(b, at, by)...)
		if alike := bytes.Equal(Flip(b, at, by), b); alike != (Sum(Flip(b, at, by)) == Sum(b)) {
			t.Errorf("Sum of %d, flipped at %d by %d: the same", b, at, by)
		}
	})
}
