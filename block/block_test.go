package block_test

import (
	"bytes"
	"math"
	"math/rand/v2"
	"slices"
	"testing"

	"newsreel/api"
	"newsreel/block"
)

// run returns n bytes, none of them 0, that differ from those beside them and from those 16 places away.
func run(n int) []byte {
	b := make([]byte, n)
	for i := range b {
		b[i] = byte(i%251 + 1)
	}
	return b
}

// fill returns n bytes that are all x.
func fill(n int, x byte) []byte { return bytes.Repeat([]byte{x}, n) }

// join returns the bytes of all parts, in new memory.
func join(parts ...[]byte) []byte { return slices.Concat(parts...) }

// piece returns a piece of the bytes given.
func piece(at int, b ...byte) api.Piece { return api.Piece{At: at, B: b} }

// pieces returns a list of the pieces given.
func pieces(l ...api.Piece) []api.Piece { return l }

// same reports whether two lists have the same pieces.
func same(l, m []api.Piece) bool {
	return slices.EqualFunc(l, m, func(p, q api.Piece) bool { return p.At == q.At && bytes.Equal(p.B, q.B) })
}

// copied returns the pieces of a list, in new memory.
func copied(l []api.Piece) []api.Piece {
	var m []api.Piece
	for _, p := range l {
		m = append(m, api.Piece{At: p.At, B: bytes.Clone(p.B)})
	}
	return m
}

// start returns the beginning of b, for messages.
func start(b []byte) []byte { return b[:min(len(b), 40)] }

// some returns the first pieces of a list, for messages.
func some(l []api.Piece) []api.Piece { return l[:min(len(l), 5)] }

// far are offsets above every limit, up to the greatest int.
func far() []int {
	return []int{65537, 65551, 65552, 65553, 1 << 17, 1<<31 - 1, 1 << 31, 1<<32 - 16, 1 << 32, 1<<32 + 1, 1 << 48, 1 << 62,
		math.MaxInt - 65537, math.MaxInt - 65536, math.MaxInt - 65535, math.MaxInt - 17, math.MaxInt - 16, math.MaxInt - 15, math.MaxInt - 14, math.MaxInt - 1, math.MaxInt}
}

// negative are offsets below 0, down to the smallest int.
func negative() []int {
	return []int{-1, -2, -15, -16, -17, -32, -65535, -65536, -65537, -1 << 31, -1 << 32, -1 << 62,
		math.MinInt + 65537, math.MinInt + 65536, math.MinInt + 17, math.MinInt + 16, math.MinInt + 15, math.MinInt + 1, math.MinInt}
}

// lengths are numbers of bytes where something changes.
func lengths() []int {
	return []int{0, 1, 2, 15, 16, 17, 31, 32, 33, 65519, 65520, 65521, 65535, 65536, 65537, 65552, 100000}
}

// divided does byte by byte what the chapter says of Pieces, for bytes that may be written.
func divided(at int, b []byte) []api.Piece {
	var l []api.Piece
	for i, x := range b {
		if i == 0 || (at+i)%16 == 0 {
			l = append(l, api.Piece{At: at + i})
		}
		last := &l[len(l)-1]
		last.B = append(last.B, x)
	}
	return l
}

// valid does byte by byte what the chapter says of a valid piece.
func valid(p api.Piece) bool {
	if p.At < 0 || len(p.B) == 0 {
		return false
	}
	// As uint64, so that no offset wraps round.
	for i := range p.B {
		at := uint64(p.At) + uint64(i)
		if at/16 != uint64(p.At)/16 || at >= 65536 {
			return false
		}
	}
	return true
}

// laid does byte by byte what the chapter says of Lay.
func laid(f []byte, l []api.Piece) []byte {
	out := bytes.Clone(f)
	for _, p := range l {
		if valid(p) {
			out = written(out, p.At, p.B)
		}
	}
	return out
}

// written returns f with b written at the offset at, at once, whatever blocks it lies in.
func written(f []byte, at int, b []byte) []byte {
	out := bytes.Clone(f)
	for i, x := range b {
		for len(out) <= at+i {
			out = append(out, 0)
		}
		out[at+i] = x
	}
	return out
}

// divides fails the test unless Pieces(at, b) returns these pieces.
func divides(t *testing.T, at int, b []byte, want []api.Piece) {
	t.Helper()
	l, err := block.Pieces(at, b)
	if err != api.OK || !same(l, want) {
		t.Errorf("Pieces of %d bytes at %d = %v and more (%d), %d, want %v and more (%d)", len(b), at, some(l), len(l), err, some(want), len(want))
	}
}

// fails fails the test unless Pieces(at, b) returns this error, and no pieces beside it.
func fails(t *testing.T, at int, b []byte, want api.Errno) {
	t.Helper()
	if l, err := block.Pieces(at, b); err != want || len(l) != 0 {
		t.Errorf("Pieces of %d bytes at %d = %v, %d, want the error %d", len(b), at, some(l), err, want)
	}
}

// right fails the test unless Right(p) returns want.
func right(t *testing.T, p api.Piece, want bool) {
	t.Helper()
	if got := block.Right(p); got != want {
		t.Errorf("Right of %d bytes at %d = %t, want %t", len(p.B), p.At, got, want)
	}
}

// lays fails the test unless Lay(f, l) returns these bytes.
func lays(t *testing.T, f []byte, l []api.Piece, want []byte) {
	t.Helper()
	if got := block.Lay(f, l...); !bytes.Equal(got, want) {
		t.Errorf("Lay of %v over %d bytes %v = %d bytes %v, want %d bytes %v", some(l), len(f), start(f), len(got), start(got), len(want), start(want))
	}
}

// Bl1: Pieces.

func TestExample(t *testing.T) {
	b := run(20)
	divides(t, 10, b, pieces(piece(10, b[:6]...), piece(16, b[6:]...)))
	divides(t, 10, make([]byte, 20), pieces(piece(10, make([]byte, 6)...), piece(16, make([]byte, 14)...)))
}

func TestPieces(t *testing.T) {
	for _, c := range []struct {
		at    int
		n     int
		parts []int // how many bytes the pieces have
	}{
		{0, 1, []int{1}},
		{0, 15, []int{15}},
		{0, 16, []int{16}},
		{0, 17, []int{16, 1}},
		{0, 31, []int{16, 15}},
		{0, 32, []int{16, 16}},
		{0, 33, []int{16, 16, 1}},
		{1, 14, []int{14}},
		{1, 15, []int{15}},
		{1, 16, []int{15, 1}},
		{1, 31, []int{15, 16}},
		{1, 32, []int{15, 16, 1}},
		{8, 8, []int{8}},
		{8, 9, []int{8, 1}},
		{15, 1, []int{1}},
		{15, 2, []int{1, 1}},
		{15, 17, []int{1, 16}},
		{15, 18, []int{1, 16, 1}},
		{16, 1, []int{1}},
		{16, 15, []int{15}},
		{16, 16, []int{16}},
		{16, 17, []int{16, 1}},
		{17, 14, []int{14}},
		{17, 15, []int{15}},
		{17, 16, []int{15, 1}},
		{31, 1, []int{1}},
		{31, 34, []int{1, 16, 16, 1}},
		{4096, 40, []int{16, 16, 8}},
		{65519, 1, []int{1}},
		{65519, 16, []int{1, 15}},
		{65519, 17, []int{1, 16}}, // ends at 65536
		{65520, 15, []int{15}},
		{65520, 16, []int{16}}, // ends at 65536
		{65521, 15, []int{15}}, // ends at 65536
		{65534, 1, []int{1}},
		{65534, 2, []int{2}}, // ends at 65536
		{65535, 1, []int{1}}, // ends at 65536
	} {
		b, from := run(c.n), 0
		var want []api.Piece
		for _, n := range c.parts {
			want = append(want, piece(c.at+from, b[from:from+n]...))
			from += n
		}
		divides(t, c.at, b, want)
	}
}

func TestPiecesOfNoBytes(t *testing.T) {
	for _, b := range [][]byte{nil, {}, run(20)[:0], run(20)[20:]} {
		for _, at := range []int{0, 1, 2, 8, 15, 16, 17, 31, 32, 33, 4096, 65519, 65520, 65521, 65534, 65535, 65536} {
			divides(t, at, b, nil)
		}
		for _, at := range far() {
			fails(t, at, b, api.ErrLong)
		}
		for _, at := range negative() {
			fails(t, at, b, api.ErrArg)
		}
	}
}

func TestPiecesAtManyOffsets(t *testing.T) {
	b := run(100)
	for at := range 50 {
		for n := range len(b) + 1 {
			divides(t, at, b[:n], divided(at, b[:n]))
			divides(t, 4096+at, b[:n], divided(4096+at, b[:n]))
		}
	}
}

func TestPiecesAtTheEnd(t *testing.T) {
	b := run(100)
	for at := 65536 - 60; at <= 65536+40; at++ {
		for n := range len(b) + 1 {
			if at+n > 65536 {
				fails(t, at, b[:n], api.ErrLong)
			} else {
				divides(t, at, b[:n], divided(at, b[:n]))
			}
		}
	}
}

func TestPiecesOfManyBytes(t *testing.T) {
	b := run(100000)
	for _, n := range lengths() {
		for _, at := range []int{0, 1, 15, 16, 17, 65535, 65536, 65537} {
			if at+n > 65536 {
				fails(t, at, b[:n], api.ErrLong)
			} else {
				divides(t, at, b[:n], divided(at, b[:n]))
			}
		}
		// As many bytes as there is room for, one less and one more.
		if n <= 65536 {
			left := 65536 - n
			divides(t, left, b[:n], divided(left, b[:n]))
			fails(t, left+1, b[:n], api.ErrLong)
			fails(t, left, b[:n+1], api.ErrLong)
		}
	}
	l, err := block.Pieces(0, b[:65536])
	if len(l) != 4096 || err != api.OK || l[4095].At != 65520 || !bytes.Equal(l[4095].B, b[65520:65536]) {
		t.Errorf("Pieces of a whole file has %d pieces, %d", len(l), err)
	}
}

func TestPiecesAtOffsetsThatMayNotBe(t *testing.T) {
	b := run(100000)
	for _, n := range lengths() {
		for _, at := range far() {
			fails(t, at, b[:n], api.ErrLong)
		}
		// Also where the bytes are too many: the error that is named first.
		for _, at := range negative() {
			fails(t, at, b[:n], api.ErrArg)
		}
	}
	for at := -200; at < 0; at++ {
		for _, n := range []int{1, 15, 16, 17, -at - 1, -at, -at + 1, 65536, 65536 - at, 65537 - at} {
			fails(t, at, b[:n], api.ErrArg)
		}
	}
}

func TestRoomBehindBytesIsNotLookedAt(t *testing.T) {
	b := run(100)
	for n := range 50 {
		divides(t, 10, b[:n], divided(10, bytes.Clone(b[:n])))
		divides(t, 65536-n, b[:n], divided(65536-n, bytes.Clone(b[:n])))
	}
	long := run(100000)
	divides(t, 65535, long[:1], pieces(piece(65535, 1)))
	right(t, api.Piece{At: 15, B: b[:1]}, true)
	right(t, api.Piece{At: 15, B: b[:0]}, false)
	right(t, api.Piece{At: 65535, B: b[:1]}, true)
	lays(t, b[:2], pieces(api.Piece{At: 5, B: b[:1]}), []byte{1, 2, 0, 0, 0, 1})
}

// Bl1: Right.

func TestRight(t *testing.T) {
	for _, c := range []struct {
		at   int
		n    int
		want bool
	}{
		{0, 0, false}, // no bytes
		{0, 1, true},
		{0, 15, true},
		{0, 16, true}, // a whole block
		{0, 17, false},
		{0, 32, false}, // two whole blocks
		{1, 0, false},
		{1, 14, true},
		{1, 15, true}, // to the end of the block
		{1, 16, false},
		{8, 8, true},
		{8, 9, false},
		{15, 1, true},
		{15, 2, false}, // in two blocks
		{15, 17, false},
		{15, 18, false}, // in three
		{16, 0, false},
		{16, 1, true},
		{16, 16, true},
		{16, 17, false},
		{17, 15, true},
		{17, 16, false},
		{31, 1, true},
		{31, 2, false},
		{32, 16, true},
		{-1, 0, false},
		{-1, 1, false}, // ends at 0
		{-1, 2, false},
		{-16, 1, false},
		{-16, 16, false}, // a whole block, below 0
		{-15, 15, false},
		{65519, 1, true},
		{65519, 2, false},
		{65520, 0, false},
		{65520, 15, true},
		{65520, 16, true}, // ends at 65536
		{65520, 17, false},
		{65521, 15, true},
		{65521, 16, false},
		{65534, 2, true},
		{65535, 1, true},
		{65535, 2, false},
		{65536, 0, false},
		{65536, 1, false}, // ends after it
		{65536, 16, false},
		{65537, 1, false},
		{65552, 16, false},
		{0, 65536, false},
		{0, 65537, false},
		{0, 100000, false},
		{-65536, 65536, false},
	} {
		right(t, api.Piece{At: c.at, B: run(c.n)}, c.want)
	}
	right(t, api.Piece{}, false)
	right(t, api.Piece{B: []byte{}}, false)
	right(t, piece(3, 0), true) // a byte 0 is a byte
}

func TestRightAtManyOffsets(t *testing.T) {
	b := run(40)
	for _, from := range []int{0, 4096, 65536} {
		for at := from - 50; at <= from+50; at++ {
			for n := range len(b) + 1 {
				p := api.Piece{At: at, B: b[:n]}
				right(t, p, valid(p))
			}
		}
	}
	for at := range 65536 + 100 {
		for _, n := range []int{1, 16 - at%16, 17 - at%16} {
			p := api.Piece{At: at, B: b[:n]}
			right(t, p, valid(p))
		}
	}
}

func TestRightAtOffsetsThatMayNotBe(t *testing.T) {
	b := run(100000)
	for _, at := range append(far(), negative()...) {
		for _, n := range append(lengths(), 14, 18) {
			right(t, api.Piece{At: at, B: b[:n]}, false)
		}
	}
}

// Bl2.

func TestLay(t *testing.T) {
	block0 := run(16)
	for _, c := range []struct {
		f    []byte
		l    []api.Piece
		want []byte
	}{
		{nil, nil, nil}, // no piece
		{nil, pieces(), nil},
		{[]byte{}, nil, nil},
		{[]byte{1, 2, 3}, nil, []byte{1, 2, 3}},
		{[]byte{1, 2, 3}, pieces(), []byte{1, 2, 3}},
		{nil, pieces(piece(0, 9)), []byte{9}},
		{nil, pieces(piece(2, 9)), []byte{0, 0, 9}},
		{nil, pieces(piece(15, 9)), join(make([]byte, 15), []byte{9})},
		{nil, pieces(piece(16, 9)), join(make([]byte, 16), []byte{9})},
		{[]byte{1, 2, 3}, pieces(piece(0, 9)), []byte{9, 2, 3}}, // begins within
		{[]byte{1, 2, 3}, pieces(piece(1, 9)), []byte{1, 9, 3}},
		{[]byte{1, 2, 3}, pieces(piece(2, 9)), []byte{1, 2, 9}},
		{[]byte{1, 2, 3}, pieces(piece(0, 7, 8, 9)), []byte{7, 8, 9}},
		{[]byte{1, 2, 3}, pieces(piece(2, 8, 9)), []byte{1, 2, 8, 9}}, // ends after the end
		{[]byte{1, 2, 3}, pieces(piece(0, 6, 7, 8, 9)), []byte{6, 7, 8, 9}},
		{[]byte{1, 2, 3}, pieces(piece(3, 9)), []byte{1, 2, 3, 9}},       // begins at the end
		{[]byte{1, 2, 3}, pieces(piece(4, 9)), []byte{1, 2, 3, 0, 9}},    // begins after it
		{[]byte{1, 2, 3}, pieces(piece(5, 9)), []byte{1, 2, 3, 0, 0, 9}}, // and further away
		{[]byte{1, 2, 3}, pieces(piece(1, 0)), []byte{1, 0, 3}},          // a byte 0 is written too
		{[]byte{1, 2, 3}, pieces(piece(3, 0)), []byte{1, 2, 3, 0}},
		{[]byte{1, 2, 3}, pieces(piece(0, block0...)), block0}, // a whole block
		{[]byte{1, 2, 3}, pieces(piece(16, block0...)), join([]byte{1, 2, 3}, make([]byte, 13), block0)},
		{[]byte{1, 2, 3, 4}, pieces(piece(1, 7, 8), piece(2, 9)), []byte{1, 7, 9, 4}}, // over one another
		{[]byte{1, 2, 3, 4}, pieces(piece(2, 9), piece(1, 7, 8)), []byte{1, 7, 8, 4}}, // the last one stays
		{[]byte{1, 2, 3, 4}, pieces(piece(1, 7), piece(1, 8), piece(1, 9)), []byte{1, 9, 3, 4}},
		{[]byte{1}, pieces(piece(3, 9), piece(2, 8)), []byte{1, 0, 8, 9}}, // within the gap
		{[]byte{1}, pieces(piece(5, 9), piece(3, 8)), []byte{1, 0, 0, 8, 0, 9}},
		{[]byte{1}, pieces(piece(3, 8), piece(5, 9)), []byte{1, 0, 0, 8, 0, 9}},
		{[]byte{1}, pieces(piece(1, 8), piece(2, 9)), []byte{1, 8, 9}}, // each at the end of what is there
		{[]byte{1}, pieces(piece(0, 7, 8, 9), piece(0, 6)), []byte{6, 8, 9}},
		{fill(20, 1), pieces(piece(15, 8), piece(16, 9)), join(fill(15, 1), []byte{8, 9}, fill(3, 1))},
	} {
		lays(t, c.f, c.l, c.want)
	}
	if got := block.Lay([]byte{1}); !bytes.Equal(got, []byte{1}) {
		t.Errorf("Lay without pieces = %v", got)
	}
	if got := block.Lay([]byte{1}, piece(1, 2), piece(2, 3)); !bytes.Equal(got, []byte{1, 2, 3}) {
		t.Errorf("Lay of two pieces = %v", got)
	}
}

func TestGapBehindWhatWasThere(t *testing.T) {
	// The memory behind the contents of the file is not in the gap.
	room := fill(100, 7)
	lays(t, room[:2], pieces(piece(30, 9)), join([]byte{7, 7}, make([]byte, 28), []byte{9}))
	lays(t, room[:0], pieces(piece(30, 9)), join(make([]byte, 30), []byte{9}))
	// Nor is it there after a call that had such a memory.
	block.Lay(nil, piece(16, fill(16, 7)...))
	lays(t, nil, pieces(piece(31, 9)), join(make([]byte, 31), []byte{9}))
}

// invalidPieces are all the ways in which a piece can be wrong, in bytes that would be seen.
func invalidPieces() []api.Piece {
	list := pieces(piece(0), piece(1), piece(5), piece(65535), piece(65536), piece(15, 77, 77), piece(1, fill(16, 77)...), piece(0, fill(17, 77)...), piece(0, fill(32, 77)...),
		piece(65535, 77, 77), piece(65536, 77), piece(65536, fill(16, 77)...), piece(0, fill(65536, 77)...), piece(0, fill(65537, 77)...), piece(-1, 77, 77), piece(-16, fill(16, 77)...), api.Piece{}, api.Piece{At: 20, B: []byte{}})
	for _, at := range append(far(), negative()...) {
		list = append(list, piece(at), piece(at, 77), piece(at, fill(16, 77)...), piece(at, fill(17, 77)...))
	}
	return list
}

func TestInvalidPiecesAreIgnored(t *testing.T) {
	all := invalidPieces()
	good := pieces(piece(1, 8, 9), piece(20, 4, 5), piece(2, 6))
	want := join([]byte{1, 8, 6}, make([]byte, 17), []byte{4, 5})
	for _, f := range [][]byte{nil, {1}, {1, 2, 3}, run(16), run(40), run(65536)} {
		for _, p := range all {
			lays(t, f, pieces(p), f)
			lays(t, f, pieces(p, p), f)
		}
		lays(t, f, all, f)
	}
	for _, p := range all {
		lays(t, []byte{1, 2, 3}, pieces(p, good[0], good[1], good[2]), want)
		lays(t, []byte{1, 2, 3}, pieces(good[0], p, good[1], good[2]), want)
		lays(t, []byte{1, 2, 3}, pieces(good[0], good[1], p, good[2]), want)
		lays(t, []byte{1, 2, 3}, pieces(good[0], good[1], good[2], p), want)
	}
	lays(t, []byte{1, 2, 3}, slices.Concat(all, good, all), want)
	lays(t, []byte{1, 2, 3}, slices.Concat(good[:1], all, good[1:2], all, good[2:]), want)
}

func TestLayOverLongFiles(t *testing.T) {
	list := pieces(piece(0, 200), piece(15, 201), piece(16, fill(16, 202)...), piece(65519, 203), piece(65520, fill(16, 204)...), piece(65535, 205), piece(65520, 206))
	// Also files of more bytes than one may have: nothing is cut off.
	for _, n := range []int{0, 1, 15, 16, 17, 65519, 65520, 65521, 65534, 65535, 65536, 65537, 65552, 100000} {
		f := run(n)
		for _, p := range list {
			lays(t, f, pieces(p), laid(f, pieces(p)))
			for _, q := range list {
				lays(t, f, pieces(p, q), laid(f, pieces(p, q)))
			}
		}
		lays(t, f, list, laid(f, list))
	}
	// To the last byte that a file may have, from nothing.
	lays(t, nil, pieces(piece(65535, 9)), join(make([]byte, 65535), []byte{9}))
	lays(t, nil, pieces(piece(65535, 9), piece(0, 8)), join([]byte{8}, make([]byte, 65534), []byte{9}))
}

func TestLayOfManyPieces(t *testing.T) {
	var list []api.Piece
	for _, at := range []int{-1, 0, 1, 14, 15, 16, 17, 31, 32} {
		for _, n := range []int{0, 1, 2, 15, 16, 17} {
			// Each with bytes of its own, so that it is told which one is on top.
			list = append(list, piece(at, fill(n, byte(100+len(list)))...))
		}
	}
	for _, n := range []int{0, 1, 15, 16, 17, 33} {
		f := run(n)
		for _, p := range list {
			lays(t, f, pieces(p), laid(f, pieces(p)))
			for _, q := range list {
				lays(t, f, pieces(p, q), laid(f, pieces(p, q)))
				for _, r := range list {
					lays(t, f, pieces(p, q, r), laid(f, pieces(p, q, r)))
				}
			}
		}
		lays(t, f, list, laid(f, list))
	}
}

func TestLayOneAfterTheOther(t *testing.T) {
	dice := rand.New(rand.NewPCG(8, 1))
	for range 3000 {
		f := run(dice.IntN(60))
		step := f
		var l []api.Piece
		for range dice.IntN(8) {
			p := piece(dice.IntN(70)-5, fill(dice.IntN(18), byte(dice.IntN(256)))...)
			l = append(l, p)
			step = block.Lay(step, p)
		}
		lays(t, f, l, step)
		lays(t, f, l, laid(f, l))
	}
}

// Bl3.

// orders calls visit with the list in every order.
func orders(l []api.Piece, visit func([]api.Piece)) {
	var next func(int)
	next = func(k int) {
		if k == len(l) {
			visit(l)
			return
		}
		for i := k; i < len(l); i++ {
			l[k], l[i] = l[i], l[k]
			next(k + 1)
			l[k], l[i] = l[i], l[k]
		}
	}
	next(0)
}

// apart fails the test unless all pieces are valid, and no two of them in the same block.
func apart(t *testing.T, l []api.Piece) {
	t.Helper()
	seen := map[int]int{}
	for _, p := range l {
		if !block.Right(p) || !valid(p) {
			t.Errorf("a piece of %d bytes at %d is not valid", len(p.B), p.At)
		}
		seen[p.At/16]++
	}
	if len(seen) != len(l) {
		t.Errorf("%d pieces are in %d blocks", len(l), len(seen))
	}
}

func TestPiecesInEveryOrder(t *testing.T) {
	b := bytes.Repeat([]byte{250, 0, 251, 252}, 20)
	for at := range 34 {
		for _, n := range []int{0, 1, 2, 15, 16, 17, 18, 31, 32, 33, 40, 48, 49, 64, 65} {
			for _, f := range [][]byte{nil, run(1), run(15), run(16), run(17), run(at), run(at + n), run(100)} {
				l, err := block.Pieces(at, b[:n])
				if err != api.OK {
					t.Fatalf("Pieces of %d bytes at %d: %d", n, at, err)
				}
				apart(t, l)
				// No bytes leave a file that ends ahead of them as it is.
				want := written(f, at, b[:n])
				orders(l, func(l []api.Piece) { lays(t, f, l, want) })
			}
		}
	}
}

func TestManyPiecesInAnyOrder(t *testing.T) {
	dice := rand.New(rand.NewPCG(8, 3))
	b := run(65536)
	for _, c := range []struct{ at, n int }{{0, 65536}, {1, 65535}, {65520, 16}, {65519, 17}, {100, 1000}, {15, 300}, {64000, 1536}, {17, 65518}} {
		l, err := block.Pieces(c.at, b[:c.n])
		if err != api.OK {
			t.Fatalf("Pieces of %d bytes at %d: %d", c.n, c.at, err)
		}
		apart(t, l)
		for _, f := range [][]byte{nil, fill(50, 255), fill(65536, 255)} {
			want := written(f, c.at, b[:c.n])
			lays(t, f, l, want)
			slices.Reverse(l)
			lays(t, f, l, want)
			for range 5 {
				dice.Shuffle(len(l), func(i, j int) { l[i], l[j] = l[j], l[i] })
				lays(t, f, l, want)
			}
		}
	}
}

// R3 and R4.

func TestNoArgumentIsChanged(t *testing.T) {
	room := run(200)
	want := bytes.Clone(room)
	for at := -2; at < 40; at++ {
		for n := range 60 {
			block.Pieces(at, room[20:20+n])
			block.Right(api.Piece{At: at, B: room[20 : 20+n]})
			// A file and a piece with room behind them, one of them behind the other.
			block.Lay(room[:n], api.Piece{At: at, B: room[80 : 80+n%20]}, api.Piece{At: at + 16, B: room[60:61]})
			block.Lay(room[50:50+n], api.Piece{At: at, B: room[40:56]}, api.Piece{At: 50, B: room[50:60]})
		}
	}
	if !bytes.Equal(room, want) {
		t.Errorf("an argument was changed to %v", room)
	}
	l := append(pieces(piece(0, 1), piece(40, 2, 3), piece(-1, 4), piece(15, 5, 6), piece(3, 7)), invalidPieces()...)
	keep := copied(l)
	for _, f := range [][]byte{nil, run(1), run(50)} {
		first := block.Lay(f, l...)
		if second := block.Lay(f, l...); !bytes.Equal(first, second) {
			t.Errorf("a second call returns something else: %v, %v", start(first), start(second))
		}
		block.Lay(f, l[:2]...)
	}
	if !same(l, keep) {
		t.Errorf("the list of pieces was changed to %v", some(l))
	}
}

func TestPiecesAreNewMemory(t *testing.T) {
	for _, c := range []struct{ at, n int }{{0, 1}, {0, 16}, {0, 17}, {10, 20}, {15, 2}, {15, 50}, {65519, 17}, {0, 1000}} {
		b := run(c.n + 20)[:c.n]
		want := divided(c.at, b)
		first, _ := block.Pieces(c.at, b)
		second, _ := block.Pieces(c.at, b)
		// Each piece of the first result, with all of its room, is none of the others.
		for i, p := range first {
			before := copied(slices.Concat(first[:i], first[i+1:]))
			whole := p.B[:cap(p.B)]
			for k := range whole {
				whole[k] = 99
			}
			if !same(slices.Concat(first[:i], first[i+1:]), before) {
				t.Errorf("pieces of %d bytes at %d share memory", c.n, c.at)
			}
		}
		_ = append(first, piece(77, 77))
		third, _ := block.Pieces(c.at, b)
		if !same(second, want) || !same(third, want) || !bytes.Equal(b[:cap(b)], run(cap(b))) {
			t.Errorf("results for %d bytes at %d share memory", c.n, c.at)
		}
		for i := range b {
			b[i] = 98
		}
		if !same(second, want) {
			t.Errorf("the pieces of %d bytes at %d change with the bytes", c.n, c.at)
		}
	}
}

func TestFilesAreNewMemory(t *testing.T) {
	for _, f := range [][]byte{run(1), run(16), run(40), run(100)[:40], run(100)[:2]} {
		for _, l := range [][]api.Piece{nil, pieces(piece(0, 200)), pieces(piece(16, fill(16, 201)...)), pieces(piece(0, fill(16, 202)...), piece(30, 203)), pieces(piece(-1, 77))} {
			want, keep, file := laid(f, l), copied(l), bytes.Clone(f[:cap(f)])
			first, second := block.Lay(f, l...), block.Lay(f, l...)
			whole := first[:cap(first)]
			for i := range whole {
				whole[i] = 99
			}
			if third := block.Lay(f, l...); !bytes.Equal(second, want) || !bytes.Equal(third, want) {
				t.Errorf("results of Lay share memory: %v, %v, want %v", start(second), start(third), start(want))
			}
			if !bytes.Equal(f[:cap(f)], file) || !same(l, keep) {
				t.Errorf("a result of Lay shares memory with its arguments: %v, %v", start(f), some(l))
			}
		}
	}
	// A file that no piece alters is new memory too, and so is one that is a piece as a whole.
	f, b := run(5), run(16)
	one, two := block.Lay(f), block.Lay(nil, api.Piece{B: b})
	one[0], two[0] = 99, 99
	if f[0] != 1 || b[0] != 1 {
		t.Error("a result of Lay is one of its arguments")
	}
}

func FuzzBlock(f *testing.F) {
	f.Add(10, make([]byte, 20), []byte{1}, 3, []byte{9})
	f.Add(-1, []byte{}, []byte{}, 15, []byte{1, 2})
	f.Add(65535, []byte{1}, []byte{1, 2, 3}, 65536, []byte{1})
	f.Add(math.MaxInt, []byte{1}, []byte{1, 2, 3}, math.MaxInt, []byte{1})
	f.Add(math.MinInt, []byte{1}, []byte{1, 2, 3}, math.MinInt, []byte{1})
	f.Fuzz(func(t *testing.T, at int, b, file []byte, place int, c []byte) {
		p := api.Piece{At: place, B: c}
		right(t, p, valid(p))
		lays(t, file, pieces(p), laid(file, pieces(p)))
		if at < 0 {
			fails(t, at, b, api.ErrArg)
			return
		}
		if at > 65536 || at+len(b) > 65536 {
			fails(t, at, b, api.ErrLong)
			return
		}
		divides(t, at, b, divided(at, b))
		l, _ := block.Pieces(at, b)
		apart(t, l)
		slices.Reverse(l)
		lays(t, file, l, written(file, at, b))
		l = append(l, p)
		lays(t, file, l, laid(file, l))
	})
}
