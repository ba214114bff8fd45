package file_test

import (
	"bytes"
	"math"
	"math/rand/v2"
	"slices"
	"testing"

	"newsreel/api"
	"newsreel/file"
)

// run returns n bytes, none of them 0, that differ from those beside them and from those 16 places away.
func run(n int) []byte {
	b := make([]byte, n)
	for i := range b {
		b[i] = byte(i%199 + 1)
	}
	return b
}

// fill returns n bytes that are all x.
func fill(n int, x byte) []byte { return bytes.Repeat([]byte{x}, n) }

// join returns the bytes of all parts, in new memory.
func join(parts ...[]byte) []byte { return slices.Concat(parts...) }

// piece returns a piece of the bytes given.
func piece(at int, b ...byte) api.Piece { return api.Piece{At: at, B: b} }

// pieces returns a list of the pieces given.
func pieces(l ...api.Piece) []api.Piece { return l }

// bits returns a list of bits, from a text of the digits 0 and 1.
func bits(s string) []bool {
	var l []bool
	for _, r := range s {
		l = append(l, r == '1')
	}
	return l
}

// all returns n bits that are all true.
func all(n int) []bool { return slices.Repeat([]bool{true}, n) }

// samePieces reports whether two lists have the same pieces.
func samePieces(l, m []api.Piece) bool {
	return slices.EqualFunc(l, m, func(p, q api.Piece) bool { return p.At == q.At && bytes.Equal(p.B, q.B) })
}

// same reports whether two files have the same contents and pieces.
func same(f, g api.File) bool {
	return bytes.Equal(f.Now, g.Now) && bytes.Equal(f.Sure, g.Sure) && samePieces(f.Pend, g.Pend)
}

// empty reports whether a file is the zero file.
func empty(f api.File) bool { return len(f.Now) == 0 && len(f.Sure) == 0 && len(f.Pend) == 0 }

// copied returns a file in new memory.
func copied(f api.File) api.File {
	g := api.File{Now: bytes.Clone(f.Now), Sure: bytes.Clone(f.Sure)}
	for _, p := range f.Pend {
		g.Pend = append(g.Pend, api.Piece{At: p.At, B: bytes.Clone(p.B)})
	}
	return g
}

// brief is what is shown of a file in messages.
type brief struct {
	now, sure, pend   int
	nowFrom, sureFrom []byte
	pendFrom          []api.Piece
}

// show returns what is shown of a file in messages.
func show(f api.File) brief {
	return brief{len(f.Now), len(f.Sure), len(f.Pend), f.Now[:min(len(f.Now), 40)], f.Sure[:min(len(f.Sure), 40)], f.Pend[:min(len(f.Pend), 5)]}
}

// written returns f with b written at the offset at, byte by byte; a gap is filled with bytes 0.
func written(f []byte, at int, b []byte) []byte {
	out := bytes.Clone(f)
	for i, x := range b {
		for len(out) <= at+i {
			out = append(out, 0)
		}
		out[at+i] = x
	}
	return out
}

// over returns f with the pieces of l written over it, one after the other.
func over(f []byte, l []api.Piece) []byte {
	out := bytes.Clone(f)
	for _, p := range l {
		out = written(out, p.At, p.B)
	}
	return out
}

// divided returns b in parts that end where blocks do.
func divided(at int, b []byte) []api.Piece {
	var l []api.Piece
	for i, x := range b {
		if i == 0 || (at+i)%16 == 0 {
			l = append(l, api.Piece{At: at + i})
		}
		last := &l[len(l)-1]
		last.B = append(last.B, x)
	}
	return l
}

// synced returns a valid file with these contents, synced.
func synced(b []byte) api.File { return api.File{Now: bytes.Clone(b), Sure: bytes.Clone(b)} }

// pending returns a valid file with these synced contents, and these pieces written since.
func pending(sure []byte, l ...api.Piece) api.File {
	return api.File{Now: over(sure, l), Sure: bytes.Clone(sure), Pend: l}
}

// right fails the test unless Right(f) returns want.
func right(t *testing.T, f api.File, want bool) {
	t.Helper()
	if got := file.Right(f); got != want {
		t.Errorf("Right(%v) = %t, want %t", show(f), got, want)
	}
}

// writes fails the test unless Write(f, at, b) returns want; it returns what Write did.
func writes(t *testing.T, f api.File, at int, b []byte, want api.File) api.File {
	t.Helper()
	g, err := file.Write(f, at, b)
	if err != api.OK || !same(g, want) {
		t.Errorf("Write of %d bytes at %d to %v = %v, %d, want %v", len(b), at, show(f), show(g), err, show(want))
	}
	return g
}

// fails fails the test unless Write(f, at, b) returns this error, and the zero file beside it.
func fails(t *testing.T, f api.File, at int, b []byte, want api.Errno) {
	t.Helper()
	if g, err := file.Write(f, at, b); err != want || !empty(g) {
		t.Errorf("Write of %d bytes at %d to %v = %v, %d, want the error %d", len(b), at, show(f), show(g), err, want)
	}
}

// syncs fails the test unless Sync(f) returns a file with these contents, synced.
func syncs(t *testing.T, f api.File, want []byte) {
	t.Helper()
	if g := file.Sync(f); !same(g, synced(want)) {
		t.Errorf("Sync(%v) = %v, want %v", show(f), show(g), show(synced(want)))
	}
}

// crashes fails the test unless Crash(f, l) returns a file with these contents, synced, and this number.
func crashes(t *testing.T, f api.File, l []bool, want []byte, count int) {
	t.Helper()
	if g, n := file.Crash(f, l); !same(g, synced(want)) || n != count {
		t.Errorf("Crash(%v, %v) = %v, %d, want %v, %d", show(f), l[:min(len(l), 20)], show(g), n, show(synced(want)), count)
	}
}

// refused fails the test unless all functions treat f as an invalid file.
func refused(t *testing.T, f api.File) {
	t.Helper()
	right(t, f, false)
	for _, at := range []int{0, 1, 15, 65536, 65537, -1, math.MaxInt, math.MinInt} {
		// Also where Pieces would return an error: that of the file is named first.
		fails(t, f, at, nil, api.ErrState)
		fails(t, f, at, []byte{1}, api.ErrState)
		fails(t, f, at, fill(20, 1), api.ErrState)
	}
	fails(t, f, 0, fill(65537, 1), api.ErrState)
	if g := file.Sync(f); !empty(g) {
		t.Errorf("Sync of the invalid file %v = %v", show(f), show(g))
	}
	for _, l := range [][]bool{nil, {}, {false}, {true}, all(len(f.Pend)), all(len(f.Pend) + 3)} {
		if g, n := file.Crash(f, l); !empty(g) || n != 0 {
			t.Errorf("Crash of the invalid file %v = %v, %d", show(f), show(g), n)
		}
	}
}

// several are valid files of all kinds.
func several() []api.File {
	return []api.File{
		{},
		{Now: []byte{}, Sure: []byte{}, Pend: []api.Piece{}},
		synced([]byte{0}),
		synced([]byte{1, 2, 3}),
		synced(run(16)),
		synced(run(40)),
		synced(run(65536)),
		pending(nil, piece(0, 9)),
		pending(nil, piece(15, 1), piece(16, 2)),
		pending([]byte{1, 2, 3}, piece(1, 9)),
		pending([]byte{1, 2, 3}, piece(1, 2)),
		pending([]byte{1, 2, 3}, piece(3, 8), piece(3, 9), piece(0, 7)),
		pending([]byte{1, 2, 3}, piece(20, 0)),
		pending(run(40), piece(16, fill(16, 250)...), piece(20, 251, 252), piece(16, fill(16, 253)...), piece(60, 254)),
		pending(run(65535), piece(65535, 255)),
		pending(run(65536), piece(0, fill(16, 250)...), piece(65520, fill(16, 251)...), piece(65535, 252)),
	}
}

// Fi1: Right.

func TestRight(t *testing.T) {
	for _, f := range several() {
		right(t, f, true)
	}
	for _, c := range []struct {
		now, sure []byte
		pend      []api.Piece
		want      bool
	}{
		{nil, nil, nil, true}, // the zero file
		{[]byte{}, nil, pieces(), true},
		{[]byte{1}, []byte{1}, nil, true},
		{[]byte{1}, nil, nil, false}, // in Now, and nowhere else
		{nil, []byte{1}, nil, false},
		{[]byte{0}, nil, nil, false}, // a byte 0 is a byte
		{nil, []byte{0}, nil, false},
		{nil, nil, pieces(piece(0, 0)), false},
		{[]byte{0}, nil, pieces(piece(0, 0)), true},
		{[]byte{1, 2, 3}, []byte{1, 2, 4}, nil, false},
		{[]byte{1, 9, 3}, []byte{1, 2, 3}, pieces(piece(1, 9)), true},
		{[]byte{1, 2, 3}, []byte{1, 2, 3}, pieces(piece(1, 9)), false}, // the piece is not there
		{[]byte{1, 9, 3}, []byte{1, 2, 3}, nil, false},                 // nobody wrote it
		{[]byte{1, 9}, []byte{1, 2, 3}, pieces(piece(1, 9)), false},
		{[]byte{1, 2, 3}, []byte{1, 2, 3}, pieces(piece(1, 2)), true},        // written as it was
		{[]byte{0, 0, 9}, nil, pieces(piece(2, 9)), true},                    // a gap
		{[]byte{0, 1, 9}, nil, pieces(piece(2, 9)), false},                   // a gap of something else
		{[]byte{9}, nil, pieces(piece(2, 9)), false},                         // no gap
		{[]byte{7, 9}, nil, pieces(piece(0, 7, 8), piece(1, 9)), true},       // over one another
		{[]byte{7, 8}, nil, pieces(piece(0, 7, 8), piece(1, 9)), false},      // in another order
		{[]byte{7, 8}, nil, pieces(piece(1, 9), piece(0, 7, 8)), true},       // and so it is
		{[]byte{1, 2}, []byte{1}, pieces(piece(1, 2), piece(1, 2)), true},    // twice
		{[]byte{1, 3}, []byte{1, 2}, pieces(piece(1, 2), piece(1, 3)), true}, // back and forth
	} {
		f := api.File{Now: c.now, Sure: c.sure, Pend: c.pend}
		right(t, f, c.want)
		if !c.want {
			refused(t, f)
		}
	}
}

func TestRightOfLongFiles(t *testing.T) {
	for _, n := range []int{65519, 65520, 65535, 65536} {
		right(t, synced(run(n)), true)
		right(t, pending(run(n), piece(0, 9), piece(65535, 9)), true)
	}
	// Sure of more bytes than a file may have, whatever else there is.
	for _, n := range []int{65537, 65538, 65552, 100000, 1 << 17} {
		refused(t, synced(run(n)))
		refused(t, synced(make([]byte, n)))
		refused(t, pending(run(n), piece(0, 9), piece(65535, 9)))
		refused(t, api.File{Sure: run(n)})
		refused(t, api.File{Now: run(65536), Sure: run(n)})
	}
	// Now of more bytes, of a Sure that has not too many.
	refused(t, api.File{Now: run(65537), Sure: run(65536)})
	refused(t, api.File{Now: run(65537), Sure: run(65536), Pend: pieces(piece(65536, run(65537)[65536]))})
	refused(t, api.File{Now: run(65537), Sure: run(65535), Pend: pieces(piece(65535, run(65537)[65535:]...))})
}

// wrongPieces are all the ways in which a piece can be invalid.
func wrongPieces() []api.Piece {
	l := pieces(piece(0), piece(1), piece(40), piece(65535), piece(65536), piece(15, 77, 77), piece(1, fill(16, 77)...), piece(0, fill(17, 77)...), piece(0, fill(32, 77)...),
		piece(65535, 77, 77), piece(65536, 77), piece(65536, fill(16, 77)...), piece(65537, 77), piece(-1, 77), piece(-1, 77, 77), piece(-16, fill(16, 77)...), api.Piece{}, api.Piece{At: 20, B: []byte{}})
	for _, at := range []int{1 << 31, 1 << 32, 1 << 62, math.MaxInt - 16, math.MaxInt, -1 << 31, -1 << 32, math.MinInt + 16, math.MinInt} {
		l = append(l, piece(at), piece(at, 77), piece(at, fill(16, 77)...), piece(at, fill(17, 77)...))
	}
	return l
}

func TestInvalidPieces(t *testing.T) {
	good := pieces(piece(1, 8, 9), piece(20, 4, 5), piece(2, 6))
	for _, sure := range [][]byte{nil, {1, 2, 3}, run(40), run(65536)} {
		for _, p := range wrongPieces() {
			// Now is what the valid pieces make of it: the invalid one is not ignored.
			refused(t, api.File{Now: sure, Sure: sure, Pend: pieces(p)})
			now := over(sure, good)
			for i := range len(good) + 1 {
				refused(t, api.File{Now: now, Sure: sure, Pend: slices.Insert(slices.Clone(good), i, p)})
			}
			right(t, api.File{Now: now, Sure: sure, Pend: good}, true)
		}
	}
	// Now is what the invalid piece would make of it.
	for _, p := range pieces(piece(15, 77, 77), piece(1, fill(16, 77)...), piece(0, fill(17, 77)...), piece(65535, 77, 77), piece(65536, 77)) {
		refused(t, pending([]byte{1, 2, 3}, p))
		refused(t, pending(nil, good[0], p, good[2]))
	}
	// Two invalid ones, and nothing but them.
	refused(t, api.File{Now: []byte{1}, Sure: []byte{1}, Pend: wrongPieces()})
}

func TestNowThatDiffers(t *testing.T) {
	for _, f := range several() {
		if len(f.Now) > 100 {
			continue
		}
		for i := range f.Now {
			for _, x := range []byte{1, 128, 255} {
				g := copied(f)
				g.Now[i] ^= x
				refused(t, g)
			}
		}
		for n := range f.Now {
			refused(t, api.File{Now: f.Now[:n], Sure: f.Sure, Pend: f.Pend})
			if n > 0 {
				refused(t, api.File{Now: f.Now[n:], Sure: f.Sure, Pend: f.Pend})
			}
		}
		for _, x := range [][]byte{{0}, {1}, {0, 0}, fill(16, 0)} {
			refused(t, api.File{Now: join(f.Now, x), Sure: f.Sure, Pend: f.Pend})
		}
	}
	f := pending(run(65536), piece(65535, 255))
	for _, i := range []int{0, 1, 32768, 65534, 65535} {
		g := copied(f)
		g.Now[i]++
		refused(t, g)
	}
	refused(t, api.File{Now: f.Now[:65535], Sure: f.Sure, Pend: f.Pend})
	refused(t, api.File{Now: f.Sure, Sure: f.Sure, Pend: f.Pend})
	// Sure and Pend that differ from what Now was made of.
	refused(t, api.File{Now: f.Now, Sure: f.Sure[:65534], Pend: f.Pend})
	right(t, api.File{Now: f.Now, Sure: f.Sure[:65535], Pend: f.Pend}, true)
	refused(t, api.File{Now: f.Now, Sure: f.Sure})
}

func TestRoomBehindListsIsNotLookedAt(t *testing.T) {
	room, wrong := run(100000), append(pieces(piece(2, 9)), wrongPieces()...)
	right(t, api.File{Now: room[:2], Sure: room[:2]}, true)
	right(t, api.File{Now: room[:65536], Sure: room[:65536]}, true)
	right(t, api.File{Now: []byte{1, 2, 9}, Sure: room[:2], Pend: wrong[:1]}, true)
	right(t, api.File{Now: room[:2], Sure: room[:2], Pend: wrong[1:1]}, true)
	refused(t, api.File{Now: room[:2], Sure: room[:3]})
	// A gap is of bytes 0, not of what is behind Sure.
	refused(t, api.File{Now: []byte{1, 2, 3, 9}, Sure: room[:2], Pend: pieces(piece(3, 9))})
	right(t, api.File{Now: []byte{1, 2, 0, 9}, Sure: room[:2], Pend: pieces(piece(3, 9))}, true)
	crashes(t, api.File{Now: []byte{1, 2, 0, 9}, Sure: room[:2], Pend: pieces(piece(3, 9))}, all(9)[:1], []byte{1, 2, 0, 9}, 1)
	crashes(t, api.File{Now: []byte{1, 2, 0, 9}, Sure: room[:2], Pend: pieces(piece(3, 9))}, all(9)[:0], []byte{1, 2}, 1)
	writes(t, synced(room[:2]), 3, room[:1], api.File{Now: []byte{1, 2, 0, 1}, Sure: []byte{1, 2}, Pend: pieces(piece(3, 1))})
}

// Fi1: Write.

func TestWrite(t *testing.T) {
	block := run(16)
	for _, c := range []struct {
		sure []byte
		pend []api.Piece
		at   int
		b    []byte
		now  []byte
		add  []api.Piece
	}{
		{nil, nil, 0, nil, nil, nil}, // no bytes
		{nil, nil, 0, []byte{}, nil, nil},
		{[]byte{1, 2}, nil, 1, nil, []byte{1, 2}, nil},
		{[]byte{1, 2}, pieces(piece(1, 9)), 0, nil, []byte{1, 9}, nil},
		{[]byte{1, 2}, pieces(piece(1, 9)), 40, nil, []byte{1, 9}, nil}, // they make no gap
		{nil, nil, 0, []byte{7}, []byte{7}, pieces(piece(0, 7))},
		{nil, nil, 0, []byte{0}, []byte{0}, pieces(piece(0, 0))},
		{nil, nil, 2, []byte{7}, []byte{0, 0, 7}, pieces(piece(2, 7))},
		{nil, nil, 15, []byte{1, 2}, join(make([]byte, 15), []byte{1, 2}), pieces(piece(15, 1), piece(16, 2))},
		{nil, nil, 0, block, block, pieces(piece(0, block...))}, // one block
		{nil, nil, 16, block, join(make([]byte, 16), block), pieces(piece(16, block...))},
		{nil, nil, 1, block, join([]byte{0}, block), pieces(piece(1, block[:15]...), piece(16, 16))}, // two
		{nil, nil, 15, fill(18, 7), join(make([]byte, 15), fill(18, 7)), pieces(piece(15, 7), piece(16, fill(16, 7)...), piece(32, 7))},
		{[]byte{1, 2, 3}, nil, 0, []byte{7}, []byte{7, 2, 3}, pieces(piece(0, 7))}, // over contents
		{[]byte{1, 2, 3}, nil, 1, []byte{7}, []byte{1, 7, 3}, pieces(piece(1, 7))},
		{[]byte{1, 2, 3}, nil, 1, []byte{2}, []byte{1, 2, 3}, pieces(piece(1, 2))}, // as they were
		{[]byte{1, 2, 3}, nil, 0, []byte{7, 8, 9}, []byte{7, 8, 9}, pieces(piece(0, 7, 8, 9))},
		{[]byte{1, 2, 3}, nil, 2, []byte{7, 8}, []byte{1, 2, 7, 8}, pieces(piece(2, 7, 8))},
		{[]byte{1, 2, 3}, nil, 3, []byte{7}, []byte{1, 2, 3, 7}, pieces(piece(3, 7))},          // at their end
		{[]byte{1, 2, 3}, nil, 4, []byte{7}, []byte{1, 2, 3, 0, 7}, pieces(piece(4, 7))},       // after it
		{[]byte{1, 2, 3}, nil, 6, []byte{7}, []byte{1, 2, 3, 0, 0, 0, 7}, pieces(piece(6, 7))}, // and further away
		{fill(20, 1), nil, 14, []byte{5, 6, 7, 8}, join(fill(14, 1), []byte{5, 6, 7, 8}, fill(2, 1)), pieces(piece(14, 5, 6), piece(16, 7, 8))},
		{[]byte{1, 2, 3}, pieces(piece(1, 8)), 1, []byte{9}, []byte{1, 9, 3}, pieces(piece(1, 9))}, // over what was written
		{[]byte{1, 2, 3}, pieces(piece(1, 8)), 1, []byte{8}, []byte{1, 8, 3}, pieces(piece(1, 8))}, // the same once more
		{[]byte{1, 2, 3}, pieces(piece(1, 8)), 1, []byte{2}, []byte{1, 2, 3}, pieces(piece(1, 2))}, // and back
		{[]byte{1, 2, 3}, pieces(piece(2, 7, 8)), 4, []byte{9}, []byte{1, 2, 7, 8, 9}, pieces(piece(4, 9))},
		{[]byte{1, 2, 3}, pieces(piece(5, 7), piece(0, 8)), 3, []byte{9}, []byte{8, 2, 3, 9, 0, 7}, pieces(piece(3, 9))},
	} {
		f := pending(c.sure, c.pend...)
		g := writes(t, f, c.at, c.b, api.File{Now: c.now, Sure: c.sure, Pend: slices.Concat(c.pend, c.add)})
		right(t, g, true)
	}
}

func TestWriteAtManyOffsets(t *testing.T) {
	b := fill(70, 240)
	for _, f := range several() {
		if len(f.Now) > 100 {
			continue
		}
		for at := range 50 {
			for _, n := range []int{0, 1, 2, 15, 16, 17, 31, 32, 33, 48, 49, 70} {
				want := api.File{Now: written(f.Now, at, b[:n]), Sure: f.Sure, Pend: slices.Concat(f.Pend, divided(at, b[:n]))}
				right(t, writes(t, f, at, b[:n], want), true)
			}
		}
	}
}

func TestWriteAtTheEnd(t *testing.T) {
	b := run(40)
	for _, f := range []api.File{{}, synced(run(65530)), pending(run(65536), piece(65520, 200))} {
		for at := 65536 - 20; at <= 65536+20; at++ {
			for _, n := range []int{0, 1, 2, 15, 16, 17, 40} {
				if at+n > 65536 {
					fails(t, f, at, b[:n], api.ErrLong)
					continue
				}
				want := api.File{Now: written(f.Now, at, b[:n]), Sure: f.Sure, Pend: slices.Concat(f.Pend, divided(at, b[:n]))}
				right(t, writes(t, f, at, b[:n], want), true)
			}
		}
	}
	// As a whole: all that a file may have, and one byte more.
	long := fill(65537, 240)
	for _, f := range several() {
		want := api.File{Now: long[:65536], Sure: f.Sure, Pend: slices.Concat(f.Pend, divided(0, long[:65536]))}
		right(t, writes(t, f, 0, long[:65536], want), true)
		fails(t, f, 0, long, api.ErrLong)
		fails(t, f, 1, long[:65536], api.ErrLong)
	}
}

func TestWriteAtOffsetsThatMayNotBe(t *testing.T) {
	b := fill(100000, 240)
	for _, f := range several() {
		for _, n := range []int{0, 1, 16, 17, 65536, 65537, 100000} {
			for _, at := range []int{65537, 65552, 1 << 31, 1 << 32, 1 << 62, math.MaxInt - 65536, math.MaxInt - 16, math.MaxInt - 1, math.MaxInt} {
				fails(t, f, at, b[:n], api.ErrLong)
			}
			// Also where the bytes are too many: the error that Pieces names first.
			for _, at := range []int{-1, -2, -15, -16, -17, -65536, -65537, -1 << 31, -1 << 32, math.MinInt + 1, math.MinInt} {
				fails(t, f, at, b[:n], api.ErrArg)
			}
		}
	}
}

func TestSeveralWrites(t *testing.T) {
	f := writes(t, api.File{}, 2, []byte{1, 2, 3}, api.File{Now: []byte{0, 0, 1, 2, 3}, Pend: pieces(piece(2, 1, 2, 3))})
	f = writes(t, f, 3, []byte{4}, api.File{Now: []byte{0, 0, 1, 4, 3}, Pend: pieces(piece(2, 1, 2, 3), piece(3, 4))})
	f = writes(t, f, 2, []byte{5, 6}, api.File{Now: []byte{0, 0, 5, 6, 3}, Pend: pieces(piece(2, 1, 2, 3), piece(3, 4), piece(2, 5, 6))})
	f = writes(t, f, 3, []byte{4}, api.File{Now: []byte{0, 0, 5, 4, 3}, Pend: pieces(piece(2, 1, 2, 3), piece(3, 4), piece(2, 5, 6), piece(3, 4))})
	syncs(t, f, []byte{0, 0, 5, 4, 3})
	f = file.Sync(f)
	f = writes(t, f, 0, []byte{7}, api.File{Now: []byte{7, 0, 5, 4, 3}, Sure: []byte{0, 0, 5, 4, 3}, Pend: pieces(piece(0, 7))})
	crashes(t, f, nil, []byte{0, 0, 5, 4, 3}, 1)
	crashes(t, f, bits("1"), []byte{7, 0, 5, 4, 3}, 1)
}

// Fi1: Sync.

func TestSync(t *testing.T) {
	for _, f := range several() {
		syncs(t, f, f.Now)
		g := file.Sync(f)
		right(t, g, true)
		syncs(t, g, f.Now)
	}
	syncs(t, api.File{}, nil)
	syncs(t, synced([]byte{1, 2}), []byte{1, 2}) // without pieces
	syncs(t, pending([]byte{1, 2}, piece(1, 9)), []byte{1, 9})
	syncs(t, pending([]byte{1, 2}, piece(1, 2)), []byte{1, 2})
	syncs(t, pending([]byte{1, 2}, piece(1, 9), piece(3, 8)), []byte{1, 9, 0, 8})
	syncs(t, pending(nil, piece(2, 0)), []byte{0, 0, 0})
}

// Fi2.

func TestExample(t *testing.T) {
	f := writes(t, api.File{}, 15, []byte{1, 2}, api.File{Now: join(make([]byte, 15), []byte{1, 2}), Pend: pieces(piece(15, 1), piece(16, 2))})
	crashes(t, f, bits("01"), join(make([]byte, 15), []byte{0, 2}), 2)
	crashes(t, f, bits("10"), join(make([]byte, 15), []byte{1}), 2)
	crashes(t, f, bits("11"), join(make([]byte, 15), []byte{1, 2}), 2)
	crashes(t, f, bits("00"), nil, 2)
	crashes(t, f, nil, nil, 2)
}

func TestCrash(t *testing.T) {
	three := pending([]byte{1, 2, 3}, piece(0, 7), piece(5, 8), piece(0, 9, 9))
	ten := pending(fill(3, 1), piece(0, 20), piece(1, 21), piece(2, 22), piece(3, 23), piece(4, 24), piece(5, 25), piece(6, 26), piece(7, 27), piece(8, 28), piece(9, 29))
	for _, c := range []struct {
		f    api.File
		bits string
		want []byte
		n    int
	}{
		{api.File{}, "", nil, 0},
		{api.File{}, "1", nil, 0},
		{api.File{}, "111", nil, 0},
		{synced([]byte{1, 2}), "", []byte{1, 2}, 0},
		{synced([]byte{1, 2}), "101", []byte{1, 2}, 0},
		{pending([]byte{1, 2}, piece(1, 9)), "", []byte{1, 2}, 1}, // no bits
		{pending([]byte{1, 2}, piece(1, 9)), "0", []byte{1, 2}, 1},
		{pending([]byte{1, 2}, piece(1, 9)), "1", []byte{1, 9}, 1},
		{pending([]byte{1, 2}, piece(1, 9)), "01", []byte{1, 2}, 1}, // more bits than pieces
		{pending([]byte{1, 2}, piece(1, 9)), "10", []byte{1, 9}, 1},
		{pending([]byte{1, 2}, piece(1, 9)), "0111111", []byte{1, 2}, 1},
		{pending([]byte{1, 2}, piece(1, 2)), "0", []byte{1, 2}, 1},
		{pending([]byte{1, 2}, piece(1, 2)), "1", []byte{1, 2}, 1},
		{three, "", []byte{1, 2, 3}, 3},
		{three, "0", []byte{1, 2, 3}, 3}, // fewer bits than pieces
		{three, "1", []byte{7, 2, 3}, 3},
		{three, "01", []byte{1, 2, 3, 0, 0, 8}, 3},
		{three, "11", []byte{7, 2, 3, 0, 0, 8}, 3},
		{three, "10", []byte{7, 2, 3}, 3},
		{three, "000", []byte{1, 2, 3}, 3},
		{three, "100", []byte{7, 2, 3}, 3},
		{three, "010", []byte{1, 2, 3, 0, 0, 8}, 3},
		{three, "001", []byte{9, 9, 3}, 3},
		{three, "101", []byte{9, 9, 3}, 3},
		{three, "011", []byte{9, 9, 3, 0, 0, 8}, 3},
		{three, "111", []byte{9, 9, 3, 0, 0, 8}, 3},
		{three, "1001", []byte{7, 2, 3}, 3},
		{three, "00011", []byte{1, 2, 3}, 3},
		{ten, "1010101010", []byte{20, 1, 22, 0, 24, 0, 26, 0, 28}, 10},
		{ten, "0101010101", []byte{1, 21, 1, 23, 0, 25, 0, 27, 0, 29}, 10},
		{ten, "00001", []byte{1, 1, 1, 0, 24}, 10},
		{ten, "0000000001", []byte{1, 1, 1, 0, 0, 0, 0, 0, 0, 29}, 10},
		{pending(nil, piece(0, 1, 2, 3), piece(1, 9)), "11", []byte{1, 9, 3}, 2}, // in order
		{pending(nil, piece(1, 9), piece(0, 1, 2, 3)), "11", []byte{1, 2, 3}, 2},
		{pending(nil, piece(1, 9), piece(0, 1, 2, 3)), "10", []byte{0, 9}, 2},
		{pending(nil, piece(2, 0)), "1", []byte{0, 0, 0}, 1},
		{pending(nil, piece(2, 0)), "0", nil, 1},
	} {
		crashes(t, c.f, bits(c.bits), c.want, c.n)
	}
}

func TestCrashWithAllBits(t *testing.T) {
	for _, f := range several() {
		n := len(f.Pend)
		for more := range 3 {
			// As many bits as pieces, and one and two more: every number of as many digits.
			for k := range 1 << (n + more) {
				var l []bool
				var keep []api.Piece
				for i := range n + more {
					l = append(l, k>>i&1 == 1)
					if i < n && l[i] {
						keep = append(keep, f.Pend[i])
					}
				}
				crashes(t, f, l, over(f.Sure, keep), n)
			}
		}
		for fewer := range n {
			crashes(t, f, all(fewer), over(f.Sure, f.Pend[:fewer]), n)
		}
		g, _ := file.Crash(f, all(n))
		right(t, g, true)
		crashes(t, g, nil, f.Now, 0) // a second one leaves what the first one did
	}
}

func TestCrashOfManyPieces(t *testing.T) {
	dice := rand.New(rand.NewPCG(9, 2))
	f, err := file.Write(synced(run(300)), 7, fill(65529, 250))
	if err != api.OK || len(f.Pend) != 4096 {
		t.Fatalf("a whole file has %d pieces, %d", len(f.Pend), err)
	}
	for range 20 {
		var l []bool
		var keep []api.Piece
		for i := range dice.IntN(5000) {
			l = append(l, dice.IntN(2) == 1)
			if i < len(f.Pend) && l[i] {
				keep = append(keep, f.Pend[i])
			}
		}
		crashes(t, f, l, over(f.Sure, keep), 4096)
	}
	crashes(t, f, all(4096), f.Now, 4096)
	crashes(t, f, all(1<<17), f.Now, 4096)
	crashes(t, f, make([]bool, 4096), f.Sure, 4096)
}

// Fi3.

// someBits returns up to n+2 bits by dice.
func someBits(dice *rand.Rand, n int) []bool {
	var l []bool
	for range dice.IntN(n + 3) {
		l = append(l, dice.IntN(2) == 1)
	}
	return l
}

func TestSyncedContentsSurvive(t *testing.T) {
	dice := rand.New(rand.NewPCG(9, 3))
	for range 3000 {
		f, err := file.Write(api.File{}, dice.IntN(30), fill(dice.IntN(60), 100))
		if err != api.OK {
			t.Fatalf("Write: %d", err)
		}
		f = file.Sync(f)
		sure := bytes.Clone(f.Now)
		touched := map[int]int{}
		for range dice.IntN(5) {
			at, b := dice.IntN(90), fill(dice.IntN(40), byte(150+dice.IntN(50)))
			for i := range b {
				touched[at+i]++
			}
			if f, err = file.Write(f, at, b); err != api.OK {
				t.Fatalf("Write: %d", err)
			}
		}
		g, n := file.Crash(f, someBits(dice, len(f.Pend)))
		if n != len(f.Pend) || !file.Right(g) || len(g.Now) < len(sure) || !bytes.Equal(f.Sure, sure) {
			t.Fatalf("Crash(%v) = %v, %d", show(f), show(g), n)
		}
		for i, x := range sure {
			if touched[i] == 0 && g.Now[i] != x {
				t.Fatalf("byte %d of synced contents became %d, of %d", i, g.Now[i], x)
			}
		}
		crashes(t, f, all(len(f.Pend)), f.Now, len(f.Pend)) // with all bits true, Now
		crashes(t, f, all(len(f.Pend)+2), f.Now, len(f.Pend))
		crashes(t, f, nil, sure, len(f.Pend)) // with none, Sure
		crashes(t, f, make([]bool, len(f.Pend)), sure, len(f.Pend))
	}
}

func TestOneBlockAsAWhole(t *testing.T) {
	for _, sure := range [][]byte{nil, fill(5, 1), fill(20, 1), fill(60, 1), fill(65536, 1)} {
		for _, from := range []int{0, 16, 32, 65520} {
			for first := range 16 {
				for last := first; last < 16; last++ {
					b := fill(last-first+1, 9)
					f, err := file.Write(synced(sure), from+first, b)
					if err != api.OK || len(f.Pend) != 1 {
						t.Fatalf("%d bytes in one block have %d pieces, %d", len(b), len(f.Pend), err)
					}
					crashes(t, f, bits("1"), written(sure, from+first, b), 1)
					crashes(t, f, bits("0"), sure, 1)
				}
			}
		}
	}
}

func TestEveryBlockAsAWhole(t *testing.T) {
	// Of bytes in several blocks, those in each of them are new, or they are old.
	sure := fill(64, 1)
	for at := range 20 {
		for _, n := range []int{1, 16, 17, 30, 44} {
			f, err := file.Write(synced(sure), at, fill(n, 9))
			if err != api.OK {
				t.Fatalf("Write: %d", err)
			}
			for k := range 1 << len(f.Pend) {
				var l []bool
				for i := range f.Pend {
					l = append(l, k>>i&1 == 1)
				}
				g, _ := file.Crash(f, l)
				if len(g.Now) != len(sure) {
					t.Fatalf("Crash(%v) = %v", show(f), show(g))
				}
				for i, x := range g.Now {
					want := byte(1)
					if i >= at && i < at+n && l[i/16-at/16] {
						want = 9
					}
					if x != want {
						t.Fatalf("byte %d of %d at %d is %d after %v, want %d", i, n, at, x, l, want)
					}
				}
			}
		}
	}
}

func TestManySteps(t *testing.T) {
	dice := rand.New(rand.NewPCG(9, 4))
	for range 300 {
		var f, want api.File
		for range 30 {
			switch dice.IntN(8) {
			case 0:
				f, want = file.Sync(f), synced(want.Now)
			case 1:
				l := someBits(dice, len(f.Pend))
				var keep []api.Piece
				for i, p := range want.Pend {
					if i < len(l) && l[i] {
						keep = append(keep, p)
					}
				}
				g, n := file.Crash(f, l)
				if n != len(want.Pend) {
					t.Fatalf("Crash(%v) = %v, %d", show(f), show(g), n)
				}
				f, want = g, synced(over(want.Sure, keep))
			default:
				at, b := dice.IntN(80), fill(dice.IntN(40), byte(dice.IntN(256)))
				g, err := file.Write(f, at, b)
				if err != api.OK {
					t.Fatalf("Write: %d", err)
				}
				f, want = g, api.File{Now: written(want.Now, at, b), Sure: want.Sure, Pend: slices.Concat(want.Pend, divided(at, b))}
			}
			right(t, f, true)
			if !same(f, want) {
				t.Fatalf("a file is %v, want %v", show(f), show(want))
			}
		}
	}
}

// R3 and R4.

// roomy returns f with room behind each of its lists, and a function that reports whether any of it was changed.
func roomy(f api.File) (api.File, func() bool) {
	extra := pieces(piece(0, 201), piece(1, 202))
	g := api.File{Now: join(f.Now, fill(50, 200)), Sure: join(f.Sure, fill(50, 200))}
	for _, p := range slices.Concat(f.Pend, extra) {
		g.Pend = append(g.Pend, api.Piece{At: p.At, B: join(p.B, fill(20, 200))})
	}
	whole, keep := g, copied(g)
	cut := api.File{Now: g.Now[:len(f.Now)], Sure: g.Sure[:len(f.Sure)], Pend: slices.Clone(g.Pend)[:len(f.Pend)]}
	for i, p := range cut.Pend {
		cut.Pend[i].B = p.B[:len(f.Pend[i].B)]
	}
	list := cut.Pend[:cap(cut.Pend)]
	before := copied(api.File{Pend: list})
	return cut, func() bool { return !same(whole, keep) || !samePieces(list, before.Pend) }
}

// spoil overwrites all memory of a file, and that behind its lists.
func spoil(f api.File) {
	list := f.Pend[:cap(f.Pend)]
	for _, b := range [][]byte{f.Now, f.Sure} {
		wipe(b)
	}
	for i, p := range list {
		wipe(p.B)
		list[i] = piece(-7, 99)
	}
}

// wipe overwrites all bytes of b, and those behind it.
func wipe(b []byte) {
	whole := b[:cap(b)]
	for i := range whole {
		whole[i] = 99
	}
}

// results are what the functions return for f, one after the other.
func results(f api.File, b []byte, l []bool) []api.File {
	one, _ := file.Write(f, 13, b)
	two, _ := file.Write(f, 0, nil)
	three, _ := file.Write(f, -1, b)
	four, _ := file.Crash(f, l)
	five, _ := file.Crash(f, nil)
	return []api.File{one, two, three, file.Sync(f), four, five}
}

func TestNoArgumentIsChanged(t *testing.T) {
	for _, f := range append(several(), synced(run(65537)), api.File{Now: []byte{1}}, api.File{Now: []byte{1}, Sure: []byte{1}, Pend: wrongPieces()}) {
		g, changed := roomy(f)
		room, flags := join(fill(30, 9), fill(30, 8)), append(all(4), false, false, true)
		b, l := room[:30], flags[:4]
		first := results(g, b, l)
		valid := file.Right(g)
		second := results(g, b, l)
		for i := range first {
			if !same(first[i], second[i]) || valid != file.Right(g) {
				t.Errorf("a second call returns something else: %v, %v", show(first[i]), show(second[i]))
			}
		}
		if changed() || !same(f, g) || !bytes.Equal(room, join(fill(30, 9), fill(30, 8))) || !slices.Equal(flags, append(all(4), false, false, true)) {
			t.Errorf("the arguments were changed, of them %v", show(g))
		}
	}
}

func TestResultsAreNewMemory(t *testing.T) {
	for _, f := range several() {
		for i := range results(f, nil, nil) {
			g, changed := roomy(f)
			b, l := fill(30, 9), all(4)
			want := copied(results(f, b, l)[i])
			spoil(results(g, b, l)[i])
			// Neither the arguments nor a later result has memory of the one that is no more.
			if changed() || !bytes.Equal(b, fill(30, 9)) || !slices.Equal(l, all(4)) {
				t.Errorf("result %d for %v shares memory with the arguments", i, show(f))
			}
			next := results(g, b, l)[i]
			spoil(g)
			wipe(b)
			clear(l)
			if !same(next, want) {
				t.Errorf("result %d for %v changes with the arguments: %v, want %v", i, show(f), show(next), show(want))
			}
		}
	}
}

func TestListsOfOneResultShareNothing(t *testing.T) {
	for _, f := range several() {
		for i, g := range results(f, fill(50, 9), all(4)) {
			lists := [][]byte{g.Now, g.Sure}
			for _, p := range g.Pend {
				lists = append(lists, p.B)
			}
			for k := range lists {
				var before [][]byte
				for _, b := range lists {
					before = append(before, bytes.Clone(b))
				}
				wipe(lists[k])
				for j := range lists {
					if j != k && !bytes.Equal(lists[j], before[j]) {
						t.Fatalf("lists %d and %d of result %d for %v share memory", j, k, i, show(f))
					}
				}
			}
		}
	}
}

func TestTwoWritesToOneFile(t *testing.T) {
	// Neither is seen in the other, however many pieces there were before.
	f := synced(run(10))
	for i := range 20 {
		one, _ := file.Write(f, i, []byte{250})
		two, _ := file.Write(f, i, []byte{251})
		for x, g := range []api.File{one, two} {
			want := api.File{Now: written(f.Now, i, []byte{byte(250 + x)}), Sure: run(10), Pend: slices.Concat(f.Pend, pieces(piece(i, byte(250+x))))}
			if !same(g, want) || !file.Right(g) {
				t.Errorf("of two writes one left %v, want %v", show(g), show(want))
			}
		}
		f = two
	}
}

func FuzzFile(f *testing.F) {
	f.Add([]byte{1, 2, 3}, 15, []byte{1, 2}, 0, []byte{9}, uint64(2))
	f.Add([]byte{}, -1, []byte{}, 15, []byte{1, 2}, uint64(0))
	f.Add([]byte{1}, 65535, []byte{1}, 65536, []byte{1}, uint64(1))
	f.Add([]byte{1}, math.MaxInt, []byte{1}, math.MinInt, []byte{1, 2, 3}, uint64(3))
	f.Fuzz(func(t *testing.T, sure []byte, at int, b []byte, place int, c []byte, digits uint64) {
		g := synced(sure)
		if len(sure) > 65536 {
			refused(t, g)
			return
		}
		for _, w := range []struct {
			at int
			b  []byte
		}{{at, b}, {place, c}} {
			if w.at < 0 {
				fails(t, g, w.at, w.b, api.ErrArg)
			} else if w.at > 65536 || w.at+len(w.b) > 65536 {
				fails(t, g, w.at, w.b, api.ErrLong)
			} else {
				g = writes(t, g, w.at, w.b, api.File{Now: written(g.Now, w.at, w.b), Sure: sure, Pend: slices.Concat(g.Pend, divided(w.at, w.b))})
			}
		}
		right(t, g, true)
		syncs(t, g, g.Now)
		var l []bool
		var keep []api.Piece
		for i, p := range g.Pend[:min(len(g.Pend), 64)] {
			l = append(l, digits>>i&1 == 1)
			if l[i] {
				keep = append(keep, p)
			}
		}
		crashes(t, g, l, over(sure, keep), len(g.Pend))
		crashes(t, g, all(len(g.Pend)), g.Now, len(g.Pend))
		crashes(t, g, nil, sure, len(g.Pend))
		// What no call returned: a piece of any bytes, at any offset.
		p := api.Piece{At: place, B: c}
		h := api.File{Now: sure, Sure: sure, Pend: pieces(p)}
		if place < 0 || place >= 65536 || len(c) == 0 || len(c) > 16-place%16 {
			refused(t, h)
		} else {
			right(t, h, bytes.Equal(sure, over(sure, h.Pend)))
			right(t, pending(sure, p), true)
		}
	})
}
