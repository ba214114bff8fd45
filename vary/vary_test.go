package vary_test

import (
	"bytes"
	"encoding/binary"
	"math"
	"math/big"
	"math/bits"
	"slices"
	"testing"

	"newsreel/api"
	"newsreel/vary"
)

// numbers are 0, the powers of 2 (those of 2^7 among them), 2^64 - 1, all of their neighbours, and some without a pattern.
func numbers() []uint64 {
	list := []uint64{0, 1, 2, 3, 126, 127, 128, 129, 255, 256, 300, math.MaxUint64 - 1, math.MaxUint64}
	for i := range 64 {
		power := uint64(1) << i
		list = append(list, power-1, power, power+1, power|1, ^power)
	}
	for i := range 64 {
		list = append(list, uint64(0x9e3779b97f4a7c15)>>i, uint64(0xdeadbeefcafef00d)>>i)
	}
	for n := range uint64(20000) {
		list = append(list, n)
	}
	return list
}

// tails are bytes that may follow a number: none, the last byte of another one, those of which Take would complain alone, and many.
func tails() [][]byte {
	return [][]byte{nil, {}, {0}, {1}, {127}, {128}, {255}, {0, 0}, {128, 0}, {172, 2}, {2, 128}, bytes.Repeat([]byte{255}, 20), make([]byte, 20)}
}

// join returns the bytes of all parts, in new memory.
func join(parts ...[]byte) []byte { return slices.Concat(parts...) }

// fill returns n bytes that are all x.
func fill(n int, x byte) []byte { return bytes.Repeat([]byte{x}, n) }

// literal does what the chapter says of Take word for word, with a number of any size.
func literal(b []byte) (uint64, int, api.Errno) {
	n := new(big.Int)
	for place := 1; ; place++ {
		if len(b) < place {
			return 0, 0, api.ErrShort
		}
		x := b[place-1]
		if place == 10 && x > 1 {
			return 0, 0, api.ErrForm
		}
		if x == 0 && place != 1 {
			return 0, 0, api.ErrForm
		}
		group := big.NewInt(int64(x % 128))
		n.Add(n, group.Lsh(group, uint(7*(place-1))))
		if x < 128 {
			return n.Uint64(), place, api.OK
		}
	}
}

// takes fails the test unless Take(b) returns these results.
func takes(t *testing.T, b []byte, n uint64, k int, err api.Errno) {
	t.Helper()
	if gotN, gotK, gotErr := vary.Take(b); gotN != n || gotK != k || gotErr != err {
		t.Errorf("Take(%.40v) = %d, %d, %d, want %d, %d, %d", b, gotN, gotK, gotErr, n, k, err)
	}
}

// fails fails the test unless Take(b) returns this error, and zeros beside it.
func fails(t *testing.T, b []byte, err api.Errno) {
	t.Helper()
	takes(t, b, 0, 0, err)
}

// agrees fails the test unless Take does with b what the chapter's words say, and its bytes, if accepted, are those of the number.
func agrees(t *testing.T, b []byte) {
	t.Helper()
	n, k, err := literal(b)
	takes(t, b, n, k, err)
	if err != api.OK {
		return
	}
	if got := vary.Put(n); !bytes.Equal(got, b[:k]) {
		t.Errorf("Put(%d) = %v, accepted as %v", n, got, b[:k])
	}
}

// Va1: Put.

func TestPut(t *testing.T) {
	for _, c := range []struct {
		n    uint64
		want []byte
	}{
		{300, []byte{172, 2}}, // the chapter's example
		{0, []byte{0}},
		{1, []byte{1}},
		{2, []byte{2}},
		{126, []byte{126}},
		{127, []byte{127}},
		{128, []byte{128, 1}},
		{129, []byte{129, 1}},
		{255, []byte{255, 1}},
		{256, []byte{128, 2}},
		{1<<14 - 1, []byte{255, 127}},
		{1 << 14, []byte{128, 128, 1}},
		{1<<14 + 1, []byte{129, 128, 1}},
		{1<<21 - 1, []byte{255, 255, 127}},
		{1 << 21, []byte{128, 128, 128, 1}},
		{1<<28 - 1, []byte{255, 255, 255, 127}},
		{1 << 28, []byte{128, 128, 128, 128, 1}},
		{1<<32 - 1, []byte{255, 255, 255, 255, 15}},
		{1<<35 - 1, join(fill(4, 255), []byte{127})},
		{1 << 35, join(fill(5, 128), []byte{1})},
		{api.MaxSize, []byte{128, 128, 128, 128, 128, 32}},
		{1<<42 - 1, join(fill(5, 255), []byte{127})},
		{1 << 42, join(fill(6, 128), []byte{1})},
		{1<<49 - 1, join(fill(6, 255), []byte{127})},
		{1 << 49, join(fill(7, 128), []byte{1})},
		{1<<56 - 1, join(fill(7, 255), []byte{127})},
		{1 << 56, join(fill(8, 128), []byte{1})},
		{1<<63 - 1, join(fill(8, 255), []byte{127})},
		{1 << 63, join(fill(9, 128), []byte{1})},
		{1<<63 + 1, join([]byte{129}, fill(8, 128), []byte{1})},
		{1<<64 - 2, join([]byte{254}, fill(8, 255), []byte{1})},
		{1<<64 - 1, join(fill(9, 255), []byte{1})},
		{3<<7 | 1, []byte{129, 3}},                 // the least significant group comes first
		{3<<14 | 2<<7 | 1, []byte{129, 130, 3}},    // all three groups differ
		{5<<28 | 7, []byte{135, 128, 128, 128, 5}}, // groups of 0 between others
		{0x0123456789abcdef, []byte{239, 155, 175, 205, 248, 172, 209, 145, 1}},
	} {
		if got := vary.Put(c.n); !bytes.Equal(got, c.want) {
			t.Errorf("Put(%d) = %v, want %v", c.n, got, c.want)
		}
	}
}

func TestPutInGroups(t *testing.T) {
	for _, n := range numbers() {
		b := vary.Put(n)
		// The sum of the groups, the first one weighing least, is the number.
		sum, weight := uint64(0), uint64(1)
		for i, x := range b {
			group := x
			if i < len(b)-1 {
				if x < 128 {
					t.Errorf("Put(%d) = %v, with a byte below 128 ahead of the last one", n, b)
				}
				group -= 128
			}
			if group > 127 {
				t.Errorf("Put(%d) = %v, with a last byte above 127", n, b)
			}
			sum += uint64(group) * weight
			weight *= 128
		}
		if sum != n {
			t.Errorf("Put(%d) = %v, whose groups make up %d", n, b, sum)
		}
		if want := binary.AppendUvarint(nil, n); !bytes.Equal(b, want) {
			t.Errorf("Put(%d) = %v, want the library's %v", n, b, want)
		}
	}
}

func TestPutIsTheShortest(t *testing.T) {
	for _, n := range numbers() {
		// 0 has no bit, and takes a byte nevertheless.
		want := max(1, (bits.Len64(n)+6)/7)
		if got := len(vary.Put(n)); got != want {
			t.Errorf("Put(%d) has %d bytes, want %d", n, got, want)
		}
	}
}

// Va1: Take of what is a number.

func TestTake(t *testing.T) {
	for _, c := range []struct {
		b []byte
		n uint64
		k int
	}{
		{[]byte{172, 2}, 300, 2}, // the chapter's example
		{[]byte{172, 2, 9}, 300, 2},
		{[]byte{172, 2, 172, 2}, 300, 2},
		{[]byte{0}, 0, 1},         // a byte 0 that is the first one
		{[]byte{0, 0}, 0, 1},      // the second one is not looked at
		{[]byte{0, 128}, 0, 1},    // nor is this one
		{[]byte{0, 172, 2}, 0, 1}, // what follows is another number
		{[]byte{1}, 1, 1},
		{[]byte{127}, 127, 1},
		{[]byte{127, 0}, 127, 1},
		{[]byte{128, 1}, 128, 2},
		{[]byte{255, 1}, 255, 2},
		{[]byte{129, 3}, 385, 2},
		{[]byte{255, 127}, 1<<14 - 1, 2},
		{[]byte{128, 127}, 127 << 7, 2},
		{[]byte{128, 128, 1}, 1 << 14, 3}, // a group of 0 that is not the last one
		{[]byte{255, 128, 1}, 1<<14 + 127, 3},
		{[]byte{129, 130, 3, 4}, 3<<14 | 2<<7 | 1, 3},
		{join(fill(4, 255), []byte{15}), 1<<32 - 1, 5},
		{join(fill(8, 128), []byte{1}), 1 << 56, 9},
		{join(fill(8, 128), []byte{127}), 127 << 56, 9},
		{join(fill(8, 255), []byte{127}), 1<<63 - 1, 9},
		{join(fill(9, 128), []byte{1}), 1 << 63, 10},
		{join(fill(9, 128), []byte{1, 0}), 1 << 63, 10},
		{join([]byte{129}, fill(8, 128), []byte{1}), 1<<63 + 1, 10},
		{join(fill(9, 255), []byte{1}), 1<<64 - 1, 10},
		{join(fill(9, 255), []byte{1, 255}), 1<<64 - 1, 10},
	} {
		takes(t, c.b, c.n, c.k, api.OK)
	}
}

// Va1: the errors.

func TestTakeOfNoByte(t *testing.T) {
	fails(t, nil, api.ErrShort)
	fails(t, []byte{}, api.ErrShort)
}

func TestTakeOfBytesThatEndTooEarly(t *testing.T) {
	for n := 1; n <= 9; n++ {
		for x := 128; x < 256; x++ {
			fails(t, fill(n, byte(x)), api.ErrShort)
		}
	}
	for _, n := range numbers() {
		b := vary.Put(n)
		for k := range len(b) {
			fails(t, b[:k], api.ErrShort)
		}
	}
}

func TestTakeDoesNotReadOn(t *testing.T) {
	// The memory behind the list has what the number lacks.
	room := []byte{172, 2, 128, 128, 1}
	fails(t, room[:0], api.ErrShort)
	fails(t, room[:1], api.ErrShort)
	fails(t, room[2:4], api.ErrShort)
	takes(t, room[2:], 1<<14, 3, api.OK)
}

func TestTakeOfEveryTenthByte(t *testing.T) {
	for _, head := range [][]byte{fill(9, 128), fill(9, 255), {129, 130, 131, 132, 133, 134, 135, 136, 137}} {
		for _, tail := range tails() {
			for x := range 256 {
				b := join(head, []byte{byte(x)}, tail)
				agrees(t, b)
				if x != 1 {
					fails(t, b, api.ErrForm)
					continue
				}
				n, k, err := vary.Take(b)
				if n < 1<<63 || k != 10 || err != api.OK {
					t.Errorf("Take(%v) = %d, %d, %d", b, n, k, err)
				}
			}
		}
	}
}

func TestTakeOfByteZero(t *testing.T) {
	for place := 2; place <= 10; place++ {
		for _, x := range []byte{128, 129, 200, 255} {
			for _, tail := range tails() {
				fails(t, join(fill(place-1, x), []byte{0}, tail), api.ErrForm)
			}
		}
	}
	for _, tail := range tails() {
		takes(t, join([]byte{0}, tail), 0, 1, api.OK)
	}
}

func TestOtherBytesThanTheTenthMayBeAboveOne(t *testing.T) {
	for place := 1; place <= 9; place++ {
		for _, x := range []byte{1, 2, 3, 64, 126, 127} {
			takes(t, join(fill(place-1, 128), []byte{x}), uint64(x)<<(7*(place-1)), place, api.OK)
		}
	}
}

// R2: the first byte that is invalid determines the error.

func TestWhichErrorComesFirst(t *testing.T) {
	for _, c := range []struct {
		b   []byte
		err api.Errno
	}{
		{[]byte{128}, api.ErrShort},
		{[]byte{128, 0}, api.ErrForm},
		{[]byte{128, 0, 128}, api.ErrForm},                // a byte 0 ahead of where the bytes would end
		{[]byte{128, 128}, api.ErrShort},                  // the number 0 in too many bytes, but nothing tells it yet
		{[]byte{128, 128, 0}, api.ErrForm},                // now it is told
		{fill(9, 128), api.ErrShort},                      // no tenth byte
		{fill(10, 128), api.ErrForm},                      // the tenth is above 1 ahead of the lack of an eleventh
		{fill(10, 255), api.ErrForm},                      // so it is here
		{fill(11, 128), api.ErrForm},                      // the eleventh is never reached
		{fill(1000, 255), api.ErrForm},                    // whatever follows
		{join(fill(9, 128), []byte{129}), api.ErrForm},    // the group is 1, but the byte is not
		{join(fill(9, 128), []byte{129, 0}), api.ErrForm}, // a tenth byte that is too great, then a 0
		{join(fill(9, 128), []byte{0}), api.ErrForm},
		{join(fill(9, 128), []byte{2}), api.ErrForm},
		{join(fill(9, 128), []byte{127}), api.ErrForm},
		{join([]byte{128, 0}, fill(7, 128), []byte{2}), api.ErrForm},
	} {
		fails(t, c.b, c.err)
	}
}

func TestTakeOfEveryOneAndTwoBytes(t *testing.T) {
	for x := range 256 {
		agrees(t, []byte{byte(x)})
		for y := range 256 {
			agrees(t, []byte{byte(x), byte(y)})
		}
	}
}

func TestTakeOfManyBytes(t *testing.T) {
	// All lists of bytes that matter, up to a length of 6, alone and at the end of up to 7 others, so that each of them stands at the tenth place, ahead of it and behind it.
	lists := [][]byte{nil}
	for at := 0; at < len(lists); at++ {
		for before := range 8 {
			agrees(t, join(fill(before, 129), lists[at]))
		}
		if len(lists[at]) == 6 {
			continue
		}
		for _, x := range []byte{0, 1, 2, 127, 128, 255} {
			lists = append(lists, join(lists[at], []byte{x}))
		}
	}
}

// Va2.

func TestZigAndZag(t *testing.T) {
	for _, c := range []struct {
		n int64
		u uint64
	}{
		{0, 0}, {-1, 1}, {1, 2}, {-2, 3}, {2, 4}, {-3, 5}, {3, 6},
		{63, 126}, {-64, 127}, {64, 128}, {-65, 129},
		{math.MaxInt32, 1<<32 - 2}, {math.MinInt32, 1<<32 - 1},
		{1 << 31, 1 << 32}, {-1<<31 - 1, 1<<32 + 1},
		{api.MaxSize, 1 << 41}, {-api.MaxSize, 1<<41 - 1},
		{1 << 62, 1 << 63}, {-1 << 62, 1<<63 - 1}, {1<<62 - 1, 1<<63 - 2}, {-1<<62 - 1, 1<<63 + 1},
		{math.MaxInt64 - 1, 1<<64 - 4}, {math.MinInt64 + 1, 1<<64 - 3},
		{math.MaxInt64, 1<<64 - 2}, {math.MinInt64, 1<<64 - 1},
	} {
		if got := vary.Zig(c.n); got != c.u {
			t.Errorf("Zig(%d) = %d, want %d", c.n, got, c.u)
		}
		if got := vary.Zag(c.u); got != c.n {
			t.Errorf("Zag(%d) = %d, want %d", c.u, got, c.n)
		}
	}
}

func TestZigAndZagInOrder(t *testing.T) {
	// 0, then each -i and i in turn, laid on 0, 1, 2 and so on.
	u := uint64(1)
	for i := int64(1); i <= 5000; i++ {
		for _, n := range []int64{-i, i} {
			if vary.Zig(n) != u || vary.Zag(u) != n {
				t.Errorf("Zig(%d) = %d and Zag(%d) = %d", n, vary.Zig(n), u, vary.Zag(u))
			}
			u++
		}
	}
	// The end of the same line, gone backwards from the smallest and the greatest number.
	u = math.MaxUint64
	for i := range int64(5000) {
		for _, n := range []int64{math.MinInt64 + i, math.MaxInt64 - i} {
			if vary.Zig(n) != u || vary.Zag(u) != n {
				t.Errorf("Zig(%d) = %d and Zag(%d) = %d", n, vary.Zig(n), u, vary.Zag(u))
			}
			u--
		}
	}
}

func TestZagInvertsZig(t *testing.T) {
	for _, u := range numbers() {
		for _, n := range []int64{int64(u), -int64(u)} {
			if got := vary.Zag(vary.Zig(n)); got != n {
				t.Errorf("Zag(Zig(%d)) = %d", n, got)
			}
			// The place of a number, worked out with numbers of any size.
			want := new(big.Int).Lsh(big.NewInt(n), 1)
			if n < 0 {
				want.Neg(want).Sub(want, big.NewInt(1))
			}
			if got := vary.Zig(n); got != want.Uint64() {
				t.Errorf("Zig(%d) = %d, want %d", n, got, want)
			}
		}
		if got := vary.Zig(vary.Zag(u)); got != u {
			t.Errorf("Zig(Zag(%d)) = %d", u, got)
		}
	}
}

// Va3.

func TestTakeInvertsPut(t *testing.T) {
	for _, n := range numbers() {
		b := vary.Put(n)
		for _, tail := range tails() {
			takes(t, join(b, tail), n, len(b), api.OK)
		}
	}
}

func TestTakeInvertsPutAheadOfEveryByte(t *testing.T) {
	for _, n := range []uint64{0, 1, 127, 128, 300, 1<<56 - 1, 1 << 56, 1<<63 - 1, 1 << 63, math.MaxUint64} {
		b := vary.Put(n)
		for x := range 256 {
			takes(t, join(b, []byte{byte(x)}), n, len(b), api.OK)
		}
	}
}

func TestNumbersOneAfterAnother(t *testing.T) {
	list := numbers()
	var b []byte
	for _, n := range list {
		b = append(b, vary.Put(n)...)
	}
	for _, want := range list {
		n, k, err := vary.Take(b)
		if n != want || err != api.OK {
			t.Fatalf("Take = %d, %d, %d, want the number %d", n, k, err, want)
		}
		b = b[k:]
	}
	fails(t, b, api.ErrShort)
}

func TestAcceptedBytesAreEncodedToTheSame(t *testing.T) {
	accepted := 0
	for x := range 256 {
		for y := range 256 {
			for _, z := range []byte{0, 1, 2, 127, 128, 129, 255} {
				b := []byte{byte(x), byte(y), z, 1}
				n, k, err := vary.Take(b)
				if err != api.OK {
					continue
				}
				accepted++
				if got := vary.Put(n); !bytes.Equal(got, b[:k]) {
					t.Errorf("Take(%v) = %d, %d, but Put returns %v", b, n, k, got)
				}
			}
		}
	}
	// The number ends with the first byte; with the second one, which is not 0; or with one of the last two, unless the third one is 0.
	if want := 128*256*7 + 128*127*7 + 128*128*6; accepted != want {
		t.Errorf("%d lists are accepted, want %d", accepted, want)
	}
}

// R3, R4.

func TestNoArgumentIsChanged(t *testing.T) {
	room := []byte{172, 2, 128, 0, 128, 128, 1, 255, 255, 255, 255, 255, 255, 255, 255, 255, 1, 0, 7}
	want := bytes.Clone(room)
	for from := range len(room) {
		for to := from; to <= len(room); to++ {
			n, k, err := vary.Take(room[from:to])
			takes(t, room[from:to], n, k, err)
		}
	}
	if !bytes.Equal(room, want) {
		t.Errorf("Take changed its argument to %v", room)
	}
}

func TestResultsAreNewMemory(t *testing.T) {
	for _, n := range []uint64{0, 1, 127, 128, 300, 1 << 63, math.MaxUint64} {
		first, second := vary.Put(n), vary.Put(n)
		want := bytes.Clone(second)
		for i := range first {
			first[i] ^= 255
		}
		// What is appended to one result is not seen in another one.
		_ = append(first, 77)
		if third := vary.Put(n); !bytes.Equal(second, want) || !bytes.Equal(third, want) {
			t.Errorf("results of Put(%d) share memory: %v, %v, want %v", n, second, third, want)
		}
	}
}

func FuzzVary(f *testing.F) {
	f.Add(uint64(300), []byte{172, 2, 9})
	f.Add(uint64(math.MaxUint64), fill(10, 255))
	f.Add(uint64(0), []byte{128, 0})
	f.Add(uint64(1<<63), join(fill(9, 128), []byte{1}))
	f.Fuzz(func(t *testing.T, n uint64, b []byte) {
		agrees(t, b)
		whole := vary.Put(n)
		agrees(t, join(whole, b))
		takes(t, join(whole, b), n, len(whole), api.OK)
		if !bytes.Equal(whole, binary.AppendUvarint(nil, n)) {
			t.Errorf("Put(%d) = %v", n, whole)
		}
		if vary.Zig(vary.Zag(n)) != n || vary.Zag(vary.Zig(int64(n))) != int64(n) {
			t.Errorf("Zig and Zag of %d do not lead back", n)
		}
	})
}
