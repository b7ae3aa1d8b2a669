package frame

import (
	"bytes"
	"encoding/binary"
	"hash/crc32"
	"math"
	"slices"
	"testing"

	"tallyman/api"
	"tallyman/crc"
	"tallyman/pack"
)

// most is how many bytes a payload has at most, written out.
const most = 65536

// mixed are so many bytes, all of them unlike their neighbours.
func mixed(n int) []byte {
	b := make([]byte, n)
	w := uint32(n) + 1
	for i := range b {
		w = w*1664525 + 1013904223
		b[i] = byte(w >> 24)
	}
	return b
}

// fronts are bytes that may stand ahead of what is written.
func fronts() [][]byte {
	return [][]byte{nil, {}, {0}, {7}, make([]byte, 8), make([]byte, 20), mixed(100), reckonedRecord([]byte("first"))}
}

// manyPayloads are such of many lengths, some that look like records themselves.
func manyPayloads() [][]byte {
	l := [][]byte{nil, {}, {0}, {255}, []byte("ab"), make([]byte, 8), make([]byte, 16), reckonedRecord(nil), reckonedRecord([]byte("in it")), reckonedRecord(reckonedRecord([]byte("in it")))}
	for n := range 70 {
		l = append(l, mixed(n))
	}
	for _, n := range []int{255, 256, 257, 1000, 65535} {
		l = append(l, mixed(n))
	}
	return append(l, make([]byte, most), mixed(most))
}

// reckonedRecord is a record by the chapter's words, put together without the layers below.
func reckonedRecord(payload []byte) []byte {
	length := binary.BigEndian.AppendUint32(nil, uint32(len(payload)))
	sum := crc32.ChecksumIEEE(slices.Concat(length, payload))
	return slices.Concat(length, binary.BigEndian.AppendUint32(nil, sum), payload)
}

// reckonedRead is P1002 by its words.
func reckonedRead(b []byte) ([]byte, []byte, api.Errno) {
	if len(b) < 8 {
		return nil, nil, api.ErrShort
	}
	n := int64(binary.BigEndian.Uint32(b))
	switch {
	case n > most:
		return nil, nil, api.ErrBig
	case int64(len(b)-8) < n:
		return nil, nil, api.ErrShort
	case binary.BigEndian.Uint32(b[4:]) != crc32.ChecksumIEEE(slices.Concat(b[:4], b[8:8+n])):
		return nil, nil, api.ErrSum
	}
	return b[8 : 8+n], b[8+n:], api.OK
}

// reckonedAll is P1003 by its words.
func reckonedAll(b []byte) ([][]byte, int) {
	payload, behind, e := reckonedRead(b)
	if e != api.OK {
		return nil, 0
	}
	l, n := reckonedAll(behind)
	return append([][]byte{payload}, l...), n + 8 + len(payload)
}

// ofLength is what a record with such a length begins with, its sum right for the bytes behind it.
func ofLength(length uint32, payload []byte) []byte {
	b := binary.BigEndian.AppendUint32(nil, length)
	sum := crc32.ChecksumIEEE(slices.Concat(b, payload))
	return slices.Concat(b, binary.BigEndian.AppendUint32(nil, sum), payload)
}

// told are bytes as a message tells them.
func told(b []byte) any {
	if len(b) > 40 {
		return struct {
			ahead []byte
			bytes int
		}{b[:40], len(b)}
	}
	return b
}

func wantWrite(t *testing.T, b, payload, want []byte, wantErr api.Errno) {
	t.Helper()
	got, e := Write(b, payload)
	if e != wantErr || !bytes.Equal(got, want) || e != api.OK && got != nil {
		t.Errorf("Write(%v, %v): %v, %v, not %v, %v", told(b), told(payload), told(got), e, told(want), wantErr)
	}
}

func wantRead(t *testing.T, b, payload, behind []byte) {
	t.Helper()
	p, r, e := Read(b)
	if e != api.OK || !bytes.Equal(p, payload) || !bytes.Equal(r, behind) {
		t.Errorf("Read(%v): %v, %v, %v, not %v, %v", told(b), told(p), told(r), e, told(payload), told(behind))
	}
}

func wantReadErr(t *testing.T, b []byte, want api.Errno) {
	t.Helper()
	if p, r, e := Read(b); e != want || p != nil || r != nil {
		t.Errorf("Read(%v): %v, %v, %v, not %v and nothing beside it", told(b), told(p), told(r), e, want)
	}
}

func wantAll(t *testing.T, b []byte, n int, payloads ...[]byte) {
	t.Helper()
	l, k := All(b)
	if k != n || !slices.EqualFunc(l, payloads, bytes.Equal) {
		t.Errorf("All(%v): %d payloads, %d bytes, not %d, %d", told(b), len(l), k, len(payloads), n)
	}
}

// written are records of these payloads, one behind the other, and where each one ends.
func written(t *testing.T, payloads ...[]byte) ([]byte, []int) {
	t.Helper()
	var b []byte
	var ends []int
	for _, p := range payloads {
		var e api.Errno
		if b, e = Write(b, p); e != api.OK {
			t.Fatalf("Write of %d bytes: %v", len(p), e)
		}
		ends = append(ends, len(b))
	}
	return b, ends
}

func TestP1001Size(t *testing.T) {
	if api.MaxRecord != most {
		t.Fatalf("MaxRecord: %d", api.MaxRecord)
	}
	for n, want := range map[int]int{0: 8, 1: 9, 2: 10, 8: 16, 255: 263, 256: 264, 65535: 65543, 65536: 65544, 65537: 0, 65544: 0, 1 << 20: 0, 1 << 32: 0, 1<<32 + 5: 0, -1: 0, -2: 0, -7: 0, -8: 0, -9: 0, -1 << 32: 0, math.MinInt: 0, math.MinInt + 8: 0, math.MaxInt: 0, math.MaxInt - 8: 0} {
		if got := Size(n); got != want {
			t.Errorf("Size(%d): %d, not %d", n, got, want)
		}
	}
	for n := -300; n <= most+300; n++ {
		want := 0
		if n >= 0 && n <= most {
			want = len(ofLength(0, nil)) + n
		}
		if got := Size(n); got != want {
			t.Fatalf("Size(%d): %d, not %d", n, got, want)
		}
	}
}

func TestP1001Write(t *testing.T) {
	wantWrite(t, nil, []byte("a"), []byte{0, 0, 0, 1, 0xe5, 0x8c, 0x97, 0x92, 'a'}, api.OK)
	wantWrite(t, nil, nil, []byte{0, 0, 0, 0, 0x21, 0x44, 0xdf, 0x1c}, api.OK)
	wantWrite(t, []byte{}, []byte{}, []byte{0, 0, 0, 0, 0x21, 0x44, 0xdf, 0x1c}, api.OK)
	wantWrite(t, []byte{7}, nil, []byte{7, 0, 0, 0, 0, 0x21, 0x44, 0xdf, 0x1c}, api.OK)
	for _, b := range fronts() {
		for _, payload := range manyPayloads() {
			wantWrite(t, b, payload, slices.Concat(b, reckonedRecord(payload)), api.OK)
			if got, _ := Write(b, payload); len(got) != len(b)+Size(len(payload)) {
				t.Errorf("Write behind %d bytes, of %d bytes: %d bytes, and Size %d", len(b), len(payload), len(got), Size(len(payload)))
			}
		}
	}
}

func TestP1001WriteTooLong(t *testing.T) {
	for _, b := range fronts() {
		wantWrite(t, b, mixed(most), slices.Concat(b, reckonedRecord(mixed(most))), api.OK)
		for _, n := range []int{most + 1, most + 2, most + 8, 2 * most, 1 << 20, 1<<24 + 1} {
			wantWrite(t, b, make([]byte, n), nil, api.ErrBig)
		}
	}
}

func TestP1002Read(t *testing.T) {
	wantRead(t, []byte{0, 0, 0, 0, 0x21, 0x44, 0xdf, 0x1c}, nil, nil)
	wantRead(t, []byte{0, 0, 0, 0, 0x21, 0x44, 0xdf, 0x1c, 5}, nil, []byte{5})
	wantRead(t, []byte{0, 0, 0, 1, 0xe5, 0x8c, 0x97, 0x92, 'a', 'b'}, []byte("a"), []byte("b"))
	for _, payload := range manyPayloads() {
		for _, behind := range fronts() {
			wantRead(t, slices.Concat(reckonedRecord(payload), behind), payload, behind)
		}
	}
}

func TestP1002ReadErrors(t *testing.T) {
	whole := reckonedRecord([]byte("abc"))
	for n := range whole {
		wantReadErr(t, whole[:n], api.ErrShort)
	}
	// Spare room behind is not there.
	wantReadErr(t, whole[:7:11], api.ErrShort)
	wantReadErr(t, nil, api.ErrShort)
	wantReadErr(t, []byte{}, api.ErrShort)
	wantReadErr(t, []byte{255, 255, 255, 255, 255, 255, 255}, api.ErrShort)
	wantReadErr(t, make([]byte, 8), api.ErrSum)
	wantReadErr(t, make([]byte, 1000), api.ErrSum)
	for _, length := range []uint32{most + 1, most + 2, most + 256, 1 << 17, 1 << 24, 1<<24 + 3, 1 << 31, 1<<31 + 3, math.MaxUint32 - 1, math.MaxUint32} {
		wantReadErr(t, ofLength(length, nil), api.ErrBig)
		wantReadErr(t, ofLength(length, nil)[:7], api.ErrShort)
		wantReadErr(t, ofLength(length, []byte("abc")), api.ErrBig)
		wantReadErr(t, append(binary.BigEndian.AppendUint32(nil, length), 0, 0, 0, 0), api.ErrBig)
	}
	// As long as it says, with the right sum, and still too long.
	wantReadErr(t, ofLength(most+1, make([]byte, most+1)), api.ErrBig)
	wantReadErr(t, ofLength(1<<20, make([]byte, 1<<20)), api.ErrBig)
	for _, length := range []uint32{1, 4, 255, 256, 65535, 65536} {
		wantReadErr(t, ofLength(length, make([]byte, length-1)), api.ErrShort)
		wantReadErr(t, append(binary.BigEndian.AppendUint32(nil, length), make([]byte, length+3)...), api.ErrShort)
		wantReadErr(t, append(binary.BigEndian.AppendUint32(nil, length), make([]byte, length+4)...), api.ErrSum)
		wantRead(t, ofLength(length, make([]byte, length)), make([]byte, length), nil)
	}
}

// TestP1002ReadOfAnyLength: all lengths about the greatest one, with as many bytes behind, and one less.
func TestP1002ReadOfAnyLength(t *testing.T) {
	room := mixed(most + 20)
	for length := uint32(most - 3); length <= most+3; length++ {
		b := ofLength(length, room[:length])
		for n := len(b) - 1; n <= len(b); n++ {
			p, r, e := Read(b[:n])
			wantP, wantR, want := reckonedRead(b[:n])
			if e != want || !bytes.Equal(p, wantP) || !bytes.Equal(r, wantR) {
				t.Errorf("Read of a record of %d bytes, of which %d are there: %v, not %v", length, n, e, want)
			}
		}
	}
}

func TestP1003All(t *testing.T) {
	wantAll(t, nil, 0)
	wantAll(t, []byte{}, 0)
	wantAll(t, make([]byte, 8), 0)
	wantAll(t, reckonedRecord(nil), 8, nil)
	wantAll(t, append(reckonedRecord(nil), 0), 8, nil)
	wantAll(t, slices.Concat(reckonedRecord(nil), reckonedRecord(nil)), 16, nil, nil)
	// Alike records are told each.
	wantAll(t, bytes.Repeat(reckonedRecord([]byte("x")), 50), 450, slices.Repeat([][]byte{[]byte("x")}, 50)...)
	// What stands behind a wrong one is not told.
	for _, wrong := range [][]byte{{9}, make([]byte, 8), ofLength(most+1, nil), ofLength(5, nil)} {
		b := slices.Concat(reckonedRecord([]byte("ab")), reckonedRecord(nil), wrong, reckonedRecord([]byte("c")))
		wantAll(t, b, 18, []byte("ab"), nil)
		wantAll(t, b[18:], 0)
	}
	// What is in a payload is not taken for a record.
	nested := slices.Concat(reckonedRecord([]byte("in it")), reckonedRecord([]byte("too")))
	wantAll(t, reckonedRecord(nested), 8+len(nested), nested)
	var b []byte
	for _, payload := range manyPayloads() {
		b = append(b, reckonedRecord(payload)...)
	}
	wantAll(t, b, len(b), manyPayloads()...)
	wantAll(t, append(b, 1, 2, 3), len(b), manyPayloads()...)
}

func TestP1003AllOfManyRecords(t *testing.T) {
	const many = 200_000
	b := bytes.Repeat(reckonedRecord(nil), many)
	if l, n := All(b); len(l) != many || n != len(b) {
		t.Errorf("All of %d records of no bytes: %d, of %d bytes", many, len(l), n)
	}
}

func TestP1004CutOffAnywhere(t *testing.T) {
	rows := [][][]byte{
		{nil, nil, nil},
		{[]byte("ab"), nil, []byte("c")},
		{mixed(40), mixed(3), reckonedRecord([]byte("in it")), mixed(1), mixed(300)},
		{make([]byte, 17), make([]byte, 8), make([]byte, 1), nil},
		{slices.Repeat([]byte{255}, 20), nil, slices.Repeat([]byte{255}, 5)},
	}
	for _, payloads := range rows {
		b, ends := written(t, payloads...)
		for cut := range len(b) + 1 {
			whole, n := 0, 0
			for whole < len(ends) && ends[whole] <= cut {
				n = ends[whole]
				whole++
			}
			wantAll(t, b[:cut], n, payloads[:whole]...)
			wantAll(t, bytes.Clone(b[:cut]), n, payloads[:whole]...)
		}
	}
}

// TestP1004AnotherByteIsTold: each byte of a record's sum and payload, by each other one.
func TestP1004AnotherByteIsTold(t *testing.T) {
	for _, payload := range [][]byte{nil, {0}, []byte("ab"), make([]byte, 9), mixed(40)} {
		b, _ := written(t, payload)
		for at := 4; at < len(b); at++ {
			for by := 1; by < 256; by++ {
				other := bytes.Clone(b)
				other[at] ^= byte(by)
				wantReadErr(t, other, api.ErrSum)
				wantReadErr(t, slices.Concat(other, b), api.ErrSum)
				wantAll(t, slices.Concat(b, other, b), len(b), payload)
			}
		}
	}
	b, _ := written(t, mixed(most))
	for at := 4; at < len(b); at += 997 {
		other := bytes.Clone(b)
		other[at]++
		wantReadErr(t, other, api.ErrSum)
	}
}

// TestP1004AnotherLength is told too, as the length is in the sum: where as many bytes are there.
func TestP1004AnotherLength(t *testing.T) {
	b := slices.Concat(reckonedRecord(make([]byte, 40)), make([]byte, most+300))
	for at := range 4 {
		for by := 1; by < 256; by++ {
			other := bytes.Clone(b)
			other[at] ^= byte(by)
			_, _, want := reckonedRead(other)
			if want == api.OK {
				t.Fatalf("another length is told by no sum: %d", other[:4])
			}
			wantReadErr(t, other, want)
		}
	}
}

func TestP1004WrittenAgain(t *testing.T) {
	var b []byte
	for _, payload := range manyPayloads() {
		b = append(b, reckonedRecord(payload)...)
	}
	for _, row := range [][]byte{nil, b, append(bytes.Clone(b), 1), b[:len(b)-1], b[:5000], make([]byte, 30)} {
		l, n := All(row)
		var again []byte
		for _, payload := range l {
			again, _ = Write(again, payload)
		}
		if !bytes.Equal(again, row[:n]) {
			t.Errorf("All of %d bytes tells %d of them, which aren't those that are written again", len(row), n)
		}
	}
}

// TestRecordsLeaveWhatWasHandedIn: the spare room too.
func TestRecordsLeaveWhatWasHandedIn(t *testing.T) {
	for _, n := range []int{0, 1, 3, 8, 30} {
		for _, m := range []int{0, 1, 5, 20} {
			room, payloads := mixed(200), mixed(100)
			one, _ := Write(room[:n], payloads[:m])
			other, _ := Write(room[:n], payloads[m:2*m])
			if !bytes.Equal(room, mixed(200)) || !bytes.Equal(payloads, mixed(100)) {
				t.Fatalf("Write of %d bytes behind %d: what was handed in was changed", m, n)
			}
			if !bytes.Equal(one, slices.Concat(room[:n], reckonedRecord(payloads[:m]))) || !bytes.Equal(other, slices.Concat(room[:n], reckonedRecord(payloads[m:2*m]))) {
				t.Fatalf("Write of %d bytes behind %d: one record is written over another one", m, n)
			}
		}
	}
	b := slices.Concat(reckonedRecord([]byte("ab")), reckonedRecord(nil), []byte{1, 2, 3})
	was := bytes.Clone(b)
	Read(b[:18])
	All(b[:20])
	if !bytes.Equal(b, was) {
		t.Errorf("what was handed in is now %d, not %d", b, was)
	}
}

// TestPayloadsHaveNoRoomBehind: what is put behind one is not put into the next record.
func TestPayloadsHaveNoRoomBehind(t *testing.T) {
	b := slices.Concat(reckonedRecord([]byte("ab")), reckonedRecord(nil), reckonedRecord([]byte("c")))
	was := bytes.Clone(b)
	p, _, _ := Read(b)
	l, _ := All(b)
	for _, payload := range append(l, p) {
		if cap(payload) != len(payload) {
			t.Errorf("a payload of %d bytes has room for %d", len(payload), cap(payload))
		}
		_ = append(payload, 200)
	}
	if !bytes.Equal(b, was) {
		t.Errorf("behind a payload the next record is now %d, not %d", b, was)
	}
}

func TestExamplesOfTheChapter(t *testing.T) {
	if b, e := Write(nil, nil); len(b) != 8 || e != api.OK || Size(0) != 8 {
		t.Errorf("a record of no bytes: %d, %v, Size %d", b, e, Size(0))
	}
}

// TestRecordsByTheLayersBelow: its numbers are those of pack, its sum that of crc.
func TestRecordsByTheLayersBelow(t *testing.T) {
	for _, payload := range manyPayloads() {
		b := pack.Put(nil, uint64(len(payload)), 4)
		b = pack.Put(b, uint64(crc.More(crc.Sum(b), payload)), 4)
		wantWrite(t, nil, payload, append(b, payload...), api.OK)
	}
}

func FuzzRecords(f *testing.F) {
	f.Add([]byte{7}, []byte("ab"), []byte("c"), 5)
	f.Add([]byte{}, []byte{}, []byte{}, 12)
	f.Fuzz(func(t *testing.T, b, x, y []byte, cut int) {
		if len(x) > most || len(y) > most {
			return
		}
		wantWrite(t, b, x, slices.Concat(b, reckonedRecord(x)), api.OK)
		both, ends := written(t, x, y)
		cut = min(max(0, cut), len(both))
		switch {
		case cut < ends[0]:
			wantAll(t, both[:cut], 0)
		case cut < ends[1]:
			wantAll(t, both[:cut], ends[0], x)
		default:
			wantAll(t, both, ends[1], x, y)
		}
	})
}

func FuzzAnyBytes(f *testing.F) {
	f.Add([]byte("abc"))
	f.Add(reckonedRecord(nil))
	f.Add(ofLength(most+1, nil))
	f.Add(slices.Concat(reckonedRecord([]byte("ab")), reckonedRecord([]byte("c"))))
	f.Fuzz(func(t *testing.T, b []byte) {
		payload, behind, e := reckonedRead(b)
		if e == api.OK {
			wantRead(t, b, payload, behind)
		} else {
			wantReadErr(t, b, e)
		}
		l, n := reckonedAll(b)
		wantAll(t, b, n, l...)
	})
}
