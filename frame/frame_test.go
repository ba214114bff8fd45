package frame_test

import (
	"bytes"
	"encoding/binary"
	"hash/crc32"
	"slices"
	"testing"

	"newsreel/api"
	"newsreel/crc"
	"newsreel/frame"
)

// maxRec is written out, so that the tests do not follow the limit wherever it goes.
const maxRec = 32768

// join returns the bytes of all parts, in new memory.
func join(parts ...[]byte) []byte { return slices.Concat(parts...) }

// fill returns n bytes that are all x.
func fill(n int, x byte) []byte { return bytes.Repeat([]byte{x}, n) }

// series returns n bytes without a pattern, that differ for each seed.
func series(n, seed int) []byte {
	b := make([]byte, n)
	x := uint32(seed)*2654435761 + 1
	for i := range b {
		x = x*1664525 + 1013904223
		b[i] = byte(x >> 24)
	}
	return b
}

// head returns what is ahead of a record in a frame with this length and this checksum, be they right or wrong.
func head(size, sum uint32) []byte {
	return binary.BigEndian.AppendUint32(binary.BigEndian.AppendUint32(nil, size), sum)
}

// framed returns the frame of a record without the package's help, also of one that is too long.
func framed(b []byte) []byte {
	return join(head(uint32(len(b)), crc32.ChecksumIEEE(b)), b)
}

// literal does what the chapter says of Take word for word.
func literal(b []byte) ([]byte, int, api.Errno) {
	if len(b) < 8 {
		return nil, 0, api.ErrShort
	}
	size := int64(binary.BigEndian.Uint32(b[:4]))
	if size > maxRec {
		return nil, 0, api.ErrLong
	}
	if int64(len(b)) < 8+size {
		return nil, 0, api.ErrShort
	}
	if crc32.ChecksumIEEE(b[8:8+size]) != binary.BigEndian.Uint32(b[4:8]) {
		return nil, 0, api.ErrSum
	}
	return b[8 : 8+size], int(8 + size), api.OK
}

// start returns the beginning of a list of bytes: a failure need not tell all of it.
func start(b []byte) []byte { return b[:min(len(b), 20)] }

// puts fails the test unless Put(b) returns these bytes and no error.
func puts(t *testing.T, b, want []byte) {
	t.Helper()
	if got, err := frame.Put(b); err != api.OK || !bytes.Equal(got, want) {
		t.Errorf("Put(%d bytes, the first %v) = %d bytes, the first %v, %d, want %d, the first %v", len(b), start(b), len(got), start(got), err, len(want), start(want))
	}
}

// takes fails the test unless Take(b) returns these results.
func takes(t *testing.T, b, record []byte, n int, err api.Errno) {
	t.Helper()
	// bytes.Equal regards no bytes and nil as equal, as R5 does.
	if got, gotN, gotErr := frame.Take(b); !bytes.Equal(got, record) || gotN != n || gotErr != err {
		t.Errorf("Take(%d bytes, the first %v) = %d bytes, the first %v, %d, %d, want %d, the first %v, %d, %d", len(b), start(b), len(got), start(got), gotN, gotErr, len(record), start(record), n, err)
	}
}

// fails fails the test unless Take(b) returns this error and zero values beside it, and Scan(b) nothing.
func fails(t *testing.T, b []byte, err api.Errno) {
	t.Helper()
	takes(t, b, nil, 0, err)
	if l, n := frame.Scan(b); len(l) != 0 || n != 0 {
		t.Errorf("Scan(%d bytes, the first %v) = %d records, %d, want none", len(b), start(b), len(l), n)
	}
}

// agrees fails the test unless Take does with b what the chapter's words say, and what it accepts has these bytes.
func agrees(t *testing.T, b []byte) {
	t.Helper()
	want, n, err := literal(b)
	takes(t, b, want, n, err)
	if record, _, err := frame.Take(b); err == api.OK {
		puts(t, record, b[:n])
	}
}

// flip returns b with the bit changed that has this number, from the topmost bit of the first byte on.
func flip(b []byte, bit int) []byte {
	changed := bytes.Clone(b)
	changed[bit/8] ^= 128 >> (bit % 8)
	return changed
}

// records are of lengths where something changes, and of bytes that mean something elsewhere in a frame.
func records() [][]byte {
	list := [][]byte{nil, {}, {0}, {1}, {7}, {8}, {128}, {255}, {0, 0}, {0, 0, 0, 1}}
	for _, n := range []int{2, 3, 4, 7, 8, 9, 15, 16, 17, 127, 128, 255, 256, 257, 1000, 4096} {
		list = append(list, series(n, n), make([]byte, n), fill(n, 255))
	}
	// Frames are records as well.
	list = append(list, framed(nil), framed([]byte{7}), join(framed([]byte{7}), framed(nil), framed(series(30, 1))), framed([]byte{7})[:8])
	return append(list, series(maxRec-1, 1), series(maxRec, 2), make([]byte, maxRec), fill(maxRec, 255))
}

// tails are bytes that may follow a frame: none, those of other frames and of beginnings of them, and those that are none.
func tails() [][]byte {
	return [][]byte{nil, {}, {0}, {7}, {255}, fill(7, 0), fill(8, 0), fill(9, 0), fill(8, 255), {1, 2}, framed([]byte{7}), framed([]byte{7})[:8], head(1, 0), head(maxRec+1, 0), head(maxRec, 0), series(300, 3), make([]byte, 40000)}
}

// Fr1: frames that are written out.

// examples are records with their frames; the checksums are known apart from any program.
var examples = []struct {
	b, frame []byte
}{
	{nil, []byte{0, 0, 0, 0, 0, 0, 0, 0}}, // the chapter's example
	{[]byte{}, []byte{0, 0, 0, 0, 0, 0, 0, 0}},
	{[]byte{7}, []byte{0, 0, 0, 1, 76, 102, 122, 46, 7}},
	{[]byte{0}, []byte{0, 0, 0, 1, 210, 2, 239, 141, 0}},
	{[]byte{255}, []byte{0, 0, 0, 1, 255, 0, 0, 0, 255}},
	{[]byte("a"), []byte{0, 0, 0, 1, 232, 183, 190, 67, 97}},
	{[]byte("abc"), []byte{0, 0, 0, 3, 53, 36, 65, 194, 97, 98, 99}},
	{make([]byte, 4), []byte{0, 0, 0, 4, 33, 68, 223, 28, 0, 0, 0, 0}},
	{fill(4, 255), []byte{0, 0, 0, 4, 255, 255, 255, 255, 255, 255, 255, 255}},
	{[]byte("123456789"), join([]byte{0, 0, 0, 9, 203, 244, 57, 38}, []byte("123456789"))},
	{fill(255, 'x'), join([]byte{0, 0, 0, 255, 61, 102, 227, 217}, fill(255, 'x'))},
	{fill(256, 'x'), join([]byte{0, 0, 1, 0, 115, 238, 26, 16}, fill(256, 'x'))},
	{fill(257, 'x'), join([]byte{0, 0, 1, 1, 145, 24, 232, 253}, fill(257, 'x'))},
	{fill(32767, 'x'), join([]byte{0, 0, 127, 255, 225, 71, 180, 170}, fill(32767, 'x'))},
	{fill(32768, 'x'), join([]byte{0, 0, 128, 0, 186, 62, 27, 193}, fill(32768, 'x'))},
}

func TestExamples(t *testing.T) {
	for _, c := range examples {
		puts(t, c.b, c.frame)
		takes(t, c.frame, c.b, len(c.frame), api.OK)
	}
}

// Fr1: Put.

func TestPut(t *testing.T) {
	for _, b := range records() {
		puts(t, b, framed(b))
	}
	for n := range 600 {
		puts(t, series(n, n), framed(series(n, n)))
	}
	for x := range 256 {
		puts(t, []byte{byte(x)}, framed([]byte{byte(x)}))
	}
}

func TestPutOfLongRecords(t *testing.T) {
	for n := maxRec - 3; n <= maxRec; n++ {
		puts(t, series(n, n), framed(series(n, n)))
	}
	for _, n := range []int{32769, 32770, 65535, 65536, 65537, 1 << 20, 1<<24 + 5} {
		for _, b := range [][]byte{make([]byte, n), series(n, n)} {
			if got, err := frame.Put(b); err != api.ErrLong || len(got) != 0 {
				t.Errorf("Put(%d bytes) = %d bytes, %d, want ErrLong", n, len(got), err)
			}
		}
	}
}

func TestPutDoesNotLookAtRoom(t *testing.T) {
	room := series(2*maxRec, 5)
	for _, n := range []int{0, 1, 7, 8, 9, 255, 256, maxRec - 1, maxRec} {
		puts(t, room[:n], framed(bytes.Clone(room[:n])))
	}
	if got, err := frame.Put(room[:maxRec+1]); err != api.ErrLong || len(got) != 0 {
		t.Errorf("Put of a byte too many = %d bytes, %d, want ErrLong", len(got), err)
	}
}

func TestHeadOfFrames(t *testing.T) {
	for _, b := range records() {
		f, _ := frame.Put(b)
		if len(f) != 8+len(b) {
			t.Fatalf("the frame of %d bytes has %d", len(b), len(f))
		}
		// The most significant byte first, digit by digit of base 256.
		size := ((int(f[0])*256+int(f[1]))*256+int(f[2]))*256 + int(f[3])
		sum := ((int(f[4])*256+int(f[5]))*256+int(f[6]))*256 + int(f[7])
		if size != len(b) {
			t.Errorf("the frame of %d bytes has the length %d", len(b), size)
		}
		if sum != int(crc.Sum(b)) {
			t.Errorf("the frame of %d bytes has the checksum %d, want layer 5's %d", len(b), sum, crc.Sum(b))
		}
	}
}

// Fr1: Take.

func TestTake(t *testing.T) {
	for _, b := range records() {
		for _, tail := range tails() {
			takes(t, join(framed(b), tail), b, 8+len(b), api.OK)
		}
	}
}

func TestTakeInvertsPut(t *testing.T) {
	for n := range 600 {
		b := series(n, n)
		f, err := frame.Put(b)
		if err != api.OK {
			t.Fatalf("Put(%d bytes) = %d", n, err)
		}
		takes(t, f, b, len(f), api.OK)
		takes(t, join(f, []byte{9}), b, len(f), api.OK)
	}
}

func TestTakeOfFewBytes(t *testing.T) {
	fails(t, nil, api.ErrShort)
	fails(t, []byte{}, api.ErrShort)
	for n := range 8 {
		// Whatever they are: also the beginnings of lengths that are too great.
		for _, x := range []byte{0, 1, 127, 128, 255} {
			fails(t, fill(n, x), api.ErrShort)
		}
		fails(t, framed([]byte{7})[:n], api.ErrShort)
		fails(t, head(maxRec+1, 0)[:n], api.ErrShort)
		fails(t, head(1<<31, 0)[:n], api.ErrShort)
	}
	// Eight bytes are enough for a record of no bytes, and nine for one of a byte.
	takes(t, fill(8, 0), nil, 8, api.OK)
	takes(t, fill(9, 0), nil, 8, api.OK)
	takes(t, framed([]byte{7}), []byte{7}, 9, api.OK)
	fails(t, fill(8, 255), api.ErrLong)
	fails(t, fill(9, 255), api.ErrLong)
}

func TestTakeOfFramesThatEndTooEarly(t *testing.T) {
	for _, b := range records() {
		f := framed(b)
		// Long frames are cut at their ends only.
		for n := range len(f) {
			if n < 300 || n > len(f)-20 {
				fails(t, f[:n], api.ErrShort)
			}
		}
	}
}

func TestTakeDoesNotReadOn(t *testing.T) {
	// The memory behind the bytes has what the frame lacks.
	room := join(framed(series(20, 1)), framed(nil))
	for n := range 28 {
		fails(t, room[:n], api.ErrShort)
	}
	takes(t, room[:28], series(20, 1), 28, api.OK)
}

func TestTakeOfLengths(t *testing.T) {
	room := make([]byte, 70000)
	for _, size := range []uint32{32766, 32767, 32768, 32769, 32770, 65535, 65536, 65537, 1 << 20, 1 << 24, 1<<24 + 1, 1<<31 - 1, 1 << 31, 1<<31 + 1, 1<<32 - 2, 1<<32 - 1} {
		if size > maxRec {
			// With none of the bytes that it promises, with some, with all, and with more.
			for _, n := range []int{0, 1, 1000, 32767, 32768, 32769, 32770, 65537, 70000} {
				fails(t, join(head(size, 0), room[:n]), api.ErrLong)
				fails(t, join(head(size, crc.Sum(room[:n])), room[:n]), api.ErrLong)
			}
			continue
		}
		record := room[:size]
		right := head(size, crc.Sum(record))
		for _, n := range []int{0, 1, 1000, int(size) - 2, int(size) - 1} {
			fails(t, join(right, room[:n]), api.ErrShort)
		}
		for _, n := range []int{int(size), int(size) + 1, int(size) + 8, 70000} {
			takes(t, join(right, room[:n]), record, 8+int(size), api.OK)
		}
	}
	// A frame that is right but for the length of its record.
	fails(t, framed(series(maxRec+1, 1)), api.ErrLong)
	fails(t, framed(make([]byte, maxRec+1)), api.ErrLong)
}

func TestTakeOfHighBitsOfLengths(t *testing.T) {
	// A length whose upper bits are set is no length of its lower bits, and no negative one.
	for bit := range 32 {
		for _, low := range []uint32{0, 1, 5, 256, maxRec} {
			size := uint32(1)<<bit | low
			for _, b := range [][]byte{nil, series(1, 1), series(5, 1), series(256, 1), series(maxRec, 1), series(70000, 1)} {
				f := join(head(size, crc.Sum(b)), b)
				agrees(t, f)
				if bit >= 16 {
					fails(t, f, api.ErrLong)
				}
			}
		}
	}
}

func TestTakeOfEveryByteOfTheLength(t *testing.T) {
	for at := range 4 {
		for x := range 256 {
			for _, b := range [][]byte{nil, {7}, series(300, 1)} {
				f := framed(b)
				f[at] = byte(x)
				agrees(t, f)
				agrees(t, join(f, series(40000, 2)))
			}
		}
	}
}

// Fr1: single bits.

func TestTakeOfChangedBits(t *testing.T) {
	for _, b := range [][]byte{nil, {0}, {7}, {255}, series(5, 1), make([]byte, 16), fill(16, 255), series(33, 2), series(100, 3)} {
		f := framed(b)
		for bit := range 8 * len(f) {
			for _, tail := range [][]byte{nil, {0}, series(50, 4), make([]byte, 300)} {
				changed := join(flip(f, bit), tail)
				agrees(t, changed)
				if bit >= 32 {
					// In the checksum, or in the record.
					fails(t, changed, api.ErrSum)
				}
			}
		}
	}
}

func TestTakeOfChangedBitsOfLengths(t *testing.T) {
	// The lowest bits of 5 are 101, and those of 4 100: to set one makes the frame too long, to clear one too short.
	five, four := framed(series(5, 1)), framed(series(4, 1))
	for bit := range 32 {
		switch {
		case bit < 16:
			fails(t, flip(five, bit), api.ErrLong)
		case bit == 16:
			fails(t, flip(five, bit), api.ErrLong) // 32773
			fails(t, flip(framed(nil), bit), api.ErrShort)
		case bit == 29 || bit == 31:
			fails(t, flip(five, bit), api.ErrSum)
		default:
			fails(t, flip(five, bit), api.ErrShort)
		}
	}
	fails(t, flip(four, 31), api.ErrShort)
	fails(t, join(flip(four, 31), []byte{9}), api.ErrSum)
	fails(t, flip(four, 29), api.ErrSum)
}

func TestTakeOfChangedBitsOfTheGreatestRecord(t *testing.T) {
	f := framed(series(maxRec, 6))
	// Not each of its 262144 bits, which takes long.
	for bit := 32; bit < 8*len(f); bit += 997 {
		fails(t, flip(f, bit), api.ErrSum)
	}
	fails(t, flip(f, 8*len(f)-1), api.ErrSum)
	// The only bit of its length.
	fails(t, flip(f, 16), api.ErrSum)
}

func TestTakeOfWrongChecksums(t *testing.T) {
	// Other numbers that one might take for the checksum of "a".
	sum := crc.Sum([]byte("a"))
	for _, wrong := range []uint32{0, 1, sum + 1, sum - 1, ^sum, 0x43beb7e8, sum << 8, sum >> 8, crc.Sum(nil), crc.More(0, []byte("a")), crc.Sum([]byte{0, 0, 0, 1, 'a'}), crc.Sum([]byte("aa")), 1<<32 - 1} {
		fails(t, join(head(1, wrong), []byte("a")), api.ErrSum)
	}
	takes(t, join(head(1, sum), []byte("a")), []byte("a"), 9, api.OK)
	// Of no bytes it is 0, and nothing else.
	for bit := range 32 {
		fails(t, head(0, 1<<bit), api.ErrSum)
	}
	fails(t, head(0, 1<<32-1), api.ErrSum)
}

// R2: which error comes first.

func TestWhichErrorComesFirst(t *testing.T) {
	for _, c := range []struct {
		b   []byte
		err api.Errno
	}{
		{fill(7, 255), api.ErrShort},                                 // too few bytes, ahead of a length that is too great
		{[]byte{0, 0, 128, 1, 0, 0, 0}, api.ErrShort},                // so it is here: 32769
		{[]byte{0, 0, 0, 0, 1, 1, 1}, api.ErrShort},                  // and ahead of a checksum that is wrong
		{fill(8, 255), api.ErrLong},                                  // a length that is too great, and not one of its bytes
		{head(maxRec+1, 0), api.ErrLong},                             // so it is here
		{join(head(maxRec+1, 9), []byte{1}), api.ErrLong},            // with some of them, and a wrong checksum
		{join(head(maxRec+1, 9), fill(32769, 1)), api.ErrLong},       // with all of them, and a wrong checksum
		{join(head(1<<32-1, 9), fill(65536, 1)), api.ErrLong},        // with some of them
		{head(1, 9), api.ErrShort},                                   // not one byte of the record, and a wrong checksum
		{join(head(2, 9), []byte{1}), api.ErrShort},                  // not all of them, and a wrong checksum
		{join(head(maxRec, 9), fill(32767, 1)), api.ErrShort},        // so it is here
		{join(head(maxRec, 9), fill(32768, 1)), api.ErrSum},          // all of them, and a wrong checksum
		{join(head(2, 9), []byte{1, 2}), api.ErrSum},                 // so it is here
		{join(head(2, crc.Sum([]byte{1})), []byte{1}), api.ErrShort}, // what is there has the checksum
		{join(head(2, crc.Sum([]byte{1})), []byte{1, 2}), api.ErrSum},
		{join(head(1, crc.Sum([]byte{1, 2})), []byte{1, 2}), api.ErrSum}, // what is there beyond the length has it
	} {
		if _, _, err := literal(c.b); err != c.err {
			// The table itself is held against the chapter's words.
			t.Errorf("the chapter's words return %d for %d bytes, the first %v, the table says %d", err, len(c.b), start(c.b), c.err)
		}
		fails(t, c.b, c.err)
	}
}

func TestTakeOfManyBytes(t *testing.T) {
	// All lists of eleven bytes that matter at their places: many of them are frames of no to three bytes.
	sums := [][]byte{fill(4, 0), head(crc.Sum([]byte{7}), 0)[:4], head(crc.Sum([]byte{7, 0}), 0)[:4], head(crc.Sum([]byte{7, 0, 1}), 0)[:4], fill(4, 255), {1, 2, 3, 4}}
	accepted := 0
	for _, a := range []byte{0, 1, 128, 255} {
		for _, b := range []byte{0, 1, 128} {
			for _, c := range []byte{0, 1, 127, 128, 129} {
				for _, d := range []byte{0, 1, 2, 3, 4, 255} {
					for _, sum := range sums {
						whole := join([]byte{a, b, c, d}, sum, []byte{7, 0, 1})
						for n := range len(whole) + 1 {
							agrees(t, whole[:n])
						}
						if _, _, err := frame.Take(whole); err == api.OK {
							accepted++
						}
					}
				}
			}
		}
	}
	if accepted != 4 {
		t.Errorf("%d of the lists are frames, want one for each length from 0 to 3", accepted)
	}
}

// R3 and R4.

func TestNoArgumentIsChanged(t *testing.T) {
	room := join(framed([]byte{7}), framed(nil), framed(series(20, 1)), head(2, 9), []byte{1, 2, 3}, fill(9, 255))
	want := bytes.Clone(room)
	for from := range len(room) {
		for to := from; to <= len(room); to++ {
			record, n, err := frame.Take(room[from:to])
			takes(t, room[from:to], record, n, err)
			l, k := frame.Scan(room[from:to])
			scans(t, room[from:to], l, k)
			f, err := frame.Put(room[from:to])
			if err != api.OK {
				t.Fatalf("Put(%d bytes) = %d", to-from, err)
			}
			puts(t, room[from:to], f)
		}
	}
	if !bytes.Equal(room, want) {
		t.Errorf("the bytes were changed to %v", room)
	}
}

func TestFramesAreNewMemory(t *testing.T) {
	for _, b := range records() {
		keep := bytes.Clone(b)
		first, _ := frame.Put(b)
		second, _ := frame.Put(b)
		spoil(first)
		// What is appended to one result is not seen in another one.
		_ = append(first, 77)
		third, _ := frame.Put(b)
		if !bytes.Equal(second, framed(keep)) || !bytes.Equal(third, framed(keep)) || !bytes.Equal(b, keep) {
			t.Errorf("results of Put(%d bytes) share memory", len(b))
		}
		spoil(b)
		if !bytes.Equal(second, framed(keep)) {
			t.Errorf("the result of Put(%d bytes) changes with its argument", len(keep))
		}
	}
}

func TestRecordsAreNewMemory(t *testing.T) {
	for _, b := range records() {
		f := join(framed(b), fill(5, 9))
		keep := bytes.Clone(f)
		first, _, _ := frame.Take(f)
		second, _, _ := frame.Take(f)
		spoil(first)
		_ = append(first, 77, 78, 79)
		if third, _, _ := frame.Take(f); !bytes.Equal(second, b) || !bytes.Equal(third, b) || !bytes.Equal(f, keep) {
			t.Errorf("results of Take of the frame of %d bytes share memory", len(b))
		}
		spoil(f)
		if !bytes.Equal(second, b) {
			t.Errorf("the result of Take of the frame of %d bytes changes with its argument", len(b))
		}
	}
}

// spoil changes every byte of b.
func spoil(b []byte) {
	for i := range b {
		b[i] ^= 255
	}
}

func FuzzFrame(f *testing.F) {
	f.Add([]byte{0, 0, 0, 0, 0, 0, 0, 0}, []byte{}, 0)
	f.Add([]byte{0, 0, 0, 1, 76, 102, 122, 46, 7}, []byte{7}, 3)
	f.Add([]byte{0, 0, 128, 1, 0, 0, 0, 0}, fill(40000, 1), 9)
	f.Add([]byte{255, 255, 255, 255, 0, 0, 0, 0, 1}, fill(256, 0), 80)
	f.Add([]byte{0, 0, 0, 2, 76, 102, 122, 46, 7}, []byte("123456789"), 8)
	f.Fuzz(func(t *testing.T, b, record []byte, bit int) {
		agrees(t, b)
		scansLiterally(t, b)
		if len(record) > maxRec {
			fails(t, framed(record), api.ErrLong)
			return
		}
		whole := framed(record)
		puts(t, record, whole)
		takes(t, join(whole, b), record, len(whole), api.OK)
		scansLiterally(t, join(whole, b, whole))
		agrees(t, flip(whole, int(uint(bit)%uint(8*len(whole)))))
	})
}
