package crc_test

import (
	"bytes"
	"hash/crc32"
	"slices"
	"sync"
	"testing"

	"newsreel/crc"
)

// registers are those that the tests begin with: the least, the greatest, single bits, and some without a pattern.
func registers() []uint32 {
	list := []uint32{0, 1<<32 - 1, 1<<32 - 2, 1<<31 - 1, 0x00ffffff, 0xff000000, 0x12345678, 0xdeadbeef, 3988292384}
	for i := range 32 {
		list = append(list, 1<<i)
	}
	return list
}

// series returns n bytes, about half of them from 128 on, that differ for each seed.
func series(n, seed int) []byte {
	b := make([]byte, n)
	x := uint32(seed)*2654435761 + 1
	for i := range b {
		x = x*1664525 + 1013904223
		b[i] = byte(x >> 24)
	}
	return b
}

// bitwise returns the register c after the bytes of b, as the chapter describes it word for word.
func bitwise(c uint32, b []byte) uint32 {
	for _, x := range b {
		c ^= uint32(x)
		for i := 0; i < 8; i++ {
			out := c % 2
			c /= 2
			if out == 1 {
				c ^= 3988292384
			}
		}
	}
	return c
}

// agrees fails the test unless More and Sum tell what the chapter's words and the library work out.
func agrees(t *testing.T, c uint32, b []byte) {
	t.Helper()
	// A failure need not tell all of a long list.
	head := b[:min(len(b), 30)]
	if got, want := crc.More(c, b), bitwise(c, b); got != want {
		t.Errorf("More(%d, %d bytes, the first %v) = %d, want %d", c, len(b), head, got, want)
	}
	// The library takes and tells complements.
	if got, want := crc.More(c, b), ^crc32.Update(^c, crc32.IEEETable, b); got != want {
		t.Errorf("More(%d, %d bytes, the first %v) = %d, want the library's %d", c, len(b), head, got, want)
	}
	if got, want := crc.Sum(b), crc32.ChecksumIEEE(b); got != want {
		t.Errorf("Sum(%d bytes, the first %v) = %d, want %d", len(b), head, got, want)
	}
}

// R4: this test stands ahead of all others, so that the first calls of all come from several goroutines.
func TestFirstCallsAtOnce(t *testing.T) {
	const workers = 16
	var sums [workers]uint32
	var group sync.WaitGroup
	for i := range workers {
		group.Go(func() { sums[i] = crc.Sum([]byte("123456789")) })
	}
	group.Wait()
	for i, sum := range sums {
		if sum != 3421780262 {
			t.Errorf("call %d of the first ones: %d, want 3421780262", i, sum)
		}
	}
}

// Cr1: checksums that are published, apart from any program.

func TestSumsThatArePublished(t *testing.T) {
	for _, c := range []struct {
		b    string
		want uint32
	}{
		{"123456789", 3421780262}, // the chapter's example
		{"", 0},
		{"a", 0xe8b7be43},
		{"abc", 0x352441c2},
		{"message digest", 0x20159d7f},
		{"abcdefghijklmnopqrstuvwxyz", 0x4c2750bd},
		{"The quick brown fox jumps over the lazy dog", 0x414fa339},
		{"\x00", 0xd202ef8d},
		{"\xff", 0xff000000},
		{"\x00\x00\x00\x00", 0x2144df1c},
		{"\xff\xff\xff\xff", 0xffffffff},
	} {
		if got := crc.Sum([]byte(c.b)); got != c.want {
			t.Errorf("Sum(%q) = %d, want %d", c.b, got, c.want)
		}
	}
}

// Cr1: no bytes.

func TestNoBytes(t *testing.T) {
	for _, c := range registers() {
		for _, b := range [][]byte{nil, {}} {
			if got := crc.More(c, b); got != c {
				t.Errorf("More(%d, no bytes) = %d", c, got)
			}
		}
	}
	if crc.Sum(nil) != 0 || crc.Sum([]byte{}) != 0 {
		t.Errorf("Sum of no bytes: %d and %d", crc.Sum(nil), crc.Sum([]byte{}))
	}
}

// Cr1: bytes, registers and lengths.

func TestOneByte(t *testing.T) {
	for _, c := range []struct {
		register uint32
		b        byte
		want     uint32
	}{
		{0, 0, 0},
		{1, 1, 0},             // the xor of both is 0
		{255, 255, 0},         // so it is here
		{0x80, 0, 3988292384}, // a 1 is shifted out by the last of eight shifts only
		{0, 0x80, 3988292384},
		{0x100, 0, 1}, // nothing but the shift
		{0xff00, 0, 0xff},
		{1 << 31, 0, 1 << 23},
		{0, 1, 0x77073096},
		{1, 0, 0x77073096},
		{0, 255, 0x2d02ef8d},
		{1<<32 - 1, 0, ^uint32(0xd202ef8d)},
		{1<<32 - 1, 255, 0x00ffffff},
	} {
		if got := crc.More(c.register, []byte{c.b}); got != c.want {
			t.Errorf("More(%d, byte %d) = %d, want %d", c.register, c.b, got, c.want)
		}
	}
}

func TestEveryByteAtEveryRegister(t *testing.T) {
	for _, c := range registers() {
		for x := range 256 {
			agrees(t, c, []byte{byte(x)})
			agrees(t, c, []byte{1, byte(x), 254})
		}
	}
}

func TestEveryPairOfBytes(t *testing.T) {
	for x := range 256 {
		for y := range 256 {
			agrees(t, 1<<32-1, []byte{byte(x), byte(y)})
		}
	}
}

func TestEveryLength(t *testing.T) {
	for n := range 300 {
		for _, c := range []uint32{0, 1<<32 - 1, 0x12345678} {
			agrees(t, c, series(n, n))
			agrees(t, c, bytes.Repeat([]byte{255}, n))
			agrees(t, c, make([]byte, n))
		}
	}
}

func TestManyBytes(t *testing.T) {
	for _, n := range []int{4095, 4096, 32768, 65535, 65536, 1<<20 + 1} {
		agrees(t, 0xdeadbeef, series(n, 7))
	}
}

func TestRegisterZeroStaysAtZeros(t *testing.T) {
	if got := crc.More(0, make([]byte, 100)); got != 0 {
		t.Errorf("More(0, zeros) = %d", got)
	}
}

func TestSumIsTheComplement(t *testing.T) {
	for n := range 100 {
		b := series(n, n)
		if got, want := crc.Sum(b), 1<<32-1-crc.More(1<<32-1, b); got != want {
			t.Errorf("Sum of %d bytes = %d, want the complement %d", n, got, want)
		}
	}
}

// Cr2: how the bytes are divided.

func TestDividedAtEveryPlace(t *testing.T) {
	b := series(70, 1)
	for _, c := range registers() {
		want := crc.More(c, b)
		for at := range len(b) + 1 {
			if got := crc.More(crc.More(c, b[:at]), b[at:]); got != want {
				t.Errorf("More(%d, divided at %d) = %d, want %d", c, at, got, want)
			}
		}
	}
}

func TestDividedAtTwoPlaces(t *testing.T) {
	b := series(40, 2)
	want := crc.Sum(b)
	for i := range len(b) + 1 {
		for j := i; j <= len(b); j++ {
			c := crc.More(1<<32-1, b[:i])
			c = crc.More(c, b[i:j])
			c = crc.More(c, b[j:])
			if ^c != want {
				t.Errorf("the sum of bytes divided at %d and %d is %d, want %d", i, j, ^c, want)
			}
		}
	}
}

func TestDividedIntoParts(t *testing.T) {
	b := series(1000, 3)
	for _, size := range []int{1, 2, 3, 4, 7, 8, 16, 255, 256, 999, 1000} {
		c := uint32(1<<32 - 1)
		for part := range slices.Chunk(b, size) {
			c = crc.More(c, part)
			c = crc.More(c, nil)
		}
		if ^c != crc.Sum(b) {
			t.Errorf("the sum of parts of %d bytes is %d, want %d", size, ^c, crc.Sum(b))
		}
	}
}

// Cr2: a single bit.

func TestEverySingleBitCounts(t *testing.T) {
	for _, n := range []int{1, 2, 3, 4, 5, 8, 16, 17, 64, 512} {
		for _, b := range [][]byte{series(n, n), make([]byte, n), bytes.Repeat([]byte{255}, n)} {
			sum, register := crc.Sum(b), crc.More(0, b)
			for bit := range 8 * n {
				b[bit/8] ^= 1 << (bit % 8)
				if crc.Sum(b) == sum || crc.More(0, b) == register {
					t.Errorf("%d bytes with the bit %d changed have the same checksum", n, bit)
				}
				b[bit/8] ^= 1 << (bit % 8)
			}
		}
	}
}

func TestSingleBitsTellApart(t *testing.T) {
	// Two changes of one bit each are as many bits apart as two single ones; in so few bytes no two of them meet.
	seen := map[uint32]int{}
	b := series(64, 9)
	for bit := range 8 * len(b) {
		b[bit/8] ^= 1 << (bit % 8)
		sum := crc.Sum(b)
		if other, there := seen[sum]; there {
			t.Errorf("the bits %d and %d give the same checksum", bit, other)
		}
		seen[sum] = bit
		b[bit/8] ^= 1 << (bit % 8)
	}
}

// R3, R4: the arguments are not changed, and earlier calls do not count.

func TestArgumentsStay(t *testing.T) {
	room := series(100, 4)
	want := bytes.Clone(room)
	first := crc.Sum(room[10:50])
	if crc.More(5, room[10:50]) == crc.More(6, room[10:50]) {
		t.Error("the register does not count")
	}
	if got := crc.Sum(room[10:50]); got != first {
		t.Errorf("the second call returns %d, the first %d", got, first)
	}
	if !bytes.Equal(room, want) {
		t.Error("the bytes were changed")
	}
}

func TestCallsDoNotCount(t *testing.T) {
	b := series(33, 5)
	want := crc.Sum(b)
	for i := range 50 {
		crc.More(uint32(i), series(i, i))
		if got := crc.Sum(b); got != want {
			t.Fatalf("after %d other calls: %d, want %d", i+1, got, want)
		}
	}
}

func FuzzCrc(f *testing.F) {
	f.Add(uint32(0), []byte{}, 0)
	f.Add(uint32(1<<32-1), []byte("123456789"), 4)
	f.Fuzz(func(t *testing.T, c uint32, b []byte, at int) {
		agrees(t, c, b)
		if len(b) == 0 {
			return
		}
		at = int(uint(at) % uint(len(b)))
		if crc.More(crc.More(c, b[:at]), b[at:]) != crc.More(c, b) {
			t.Errorf("divided at %d the checksum differs", at)
		}
		other := bytes.Clone(b)
		other[at] ^= 1 << (c % 8)
		if crc.Sum(other) == crc.Sum(b) || crc.More(c, other) == crc.More(c, b) {
			t.Errorf("another bit at %d does not count", at)
		}
	})
}
