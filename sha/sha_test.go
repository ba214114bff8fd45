package sha_test

import (
	"bytes"
	"crypto/sha256"
	"encoding/hex"
	"strings"
	"testing"

	"newsreel/hexa"
	"newsreel/sha"
)

// series returns n bytes, about half of them from 128 on, that differ for each seed.
func series(n, seed int) []byte {
	b := make([]byte, n)
	x := uint32(seed)*2654435761 + 1
	for i := range b {
		x = x*1664525 + 1013904223
		b[i] = byte(x >> 24)
	}
	return b
}

// agrees fails the test unless Sum(b) and Hex(b) tell the hash that the library works out.
func agrees(t *testing.T, b []byte) {
	t.Helper()
	want := sha256.Sum256(b)
	// A failure need not tell all of a long list.
	start := b[:min(len(b), 30)]
	if got := sha.Sum(b); got != want {
		t.Errorf("Sum of %d bytes, the first %v, = %x, want %x", len(b), start, got, want)
	}
	if got := sha.Hex(b); got != hex.EncodeToString(want[:]) {
		t.Errorf("Hex of %d bytes, the first %v, = %q, want %x", len(b), start, got, want)
	}
}

// Sh1: hashes that are published, apart from any program.

func TestHashesThatArePublished(t *testing.T) {
	for _, c := range []struct{ b, want string }{
		{"", "e3b0c44298fc1c149afbf4c8996fb92427ae41e4649b934ca495991b7852b855"}, // the chapter's example
		{"a", "ca978112ca1bbdcafac231b39a23dc4da786eff8147c4e72b9807785afee48bb"},
		{"abc", "ba7816bf8f01cfea414140de5dae2223b00361a396177a9cb410ff61f20015ad"},
		{"abcdbcdecdefdefgefghfghighijhijkijkljklmklmnlmnomnopnopq", // 56 bytes: a block more
			"248d6a61d20638b8e5c026930c3e6039a33ce45964ff2167f6ecedd419db06c1"},
		{"abcdefghbcdefghicdefghijdefghijkefghijklfghijklmghijklmnhijklmnoijklmnopjklmnopqklmnopqrlmnopqrsmnopqrstnopqrstu",
			"cf5b16a778af8380036ce59e7b0492370b249b11e8f07a51afac45037afee9d1"},
		{"\xbd", "68325720aabd7c82f30f554b313d0570c95accbb7dc4b5aae11204c08ffe732b"},
		{"\xc9\x8c\x8e\x55", "7abc22c0ae5af26ce93dbb94433a0e0b2e119d014f8e7f65bd56c61ccccd9504"},
		{strings.Repeat("\x00", 55), "02779466cdec163811d078815c633f21901413081449002f24aa3e80f0b88ef7"},
		{strings.Repeat("\x00", 56), "d4817aa5497628e7c77e6b606107042bbba3130888c5f47a375e6179be789fbb"},
		{strings.Repeat("\x00", 57), "65a16cb7861335d5ace3c60718b5052e44660726da4cd13bb745381b235a1785"},
		{strings.Repeat("\x00", 64), "f5a5fd42d16a20302798ef6ed309979b43003d2320d9f0e8ea9831a92759fb4b"},
		{strings.Repeat("\x00", 1000), "541b3e9daa09b20bf85fa273e5cbd3e80185aa4ec298e765db87742b70138a53"},
		{strings.Repeat("A", 1000), "c2e686823489ced2017f6059b8b239318b6364f6dcd835d0a519105a1eadd6e4"},
		{strings.Repeat("U", 1005), "f4d62ddec0f3dd90ea1380fa16a5ff8dc4c54b21740650f24afc4120903552b0"},
		{strings.Repeat("a", 1000000), "cdc76e5c9914fb9281a1c7e284d73e67f1809a48a497200e046d39ccc7112cd0"},
	} {
		if got := sha.Hex([]byte(c.b)); got != c.want {
			t.Errorf("Hex of %d bytes %.20q = %q, want %q", len(c.b), c.b, got, c.want)
		}
		if got := sha.Sum([]byte(c.b)); hex.EncodeToString(got[:]) != c.want {
			t.Errorf("Sum of %d bytes %.20q = %x, want %s", len(c.b), c.b, got, c.want)
		}
	}
}

// Sh1: the bytes.

func TestSumOfNoBytes(t *testing.T) {
	if sha.Sum(nil) != sha.Sum([]byte{}) || sha.Hex(nil) != sha.Hex([]byte{}) {
		t.Error("an empty list and a nil list have different hashes")
	}
	agrees(t, nil)
}

func TestSumOfEveryByte(t *testing.T) {
	for c := range 256 {
		b := byte(c)
		agrees(t, []byte{b})
		agrees(t, []byte{1, b, 254})
		for _, n := range []int{55, 56, 64, 130} {
			agrees(t, bytes.Repeat([]byte{b}, n))
		}
	}
}

func TestEachPlaceOfABlockCounts(t *testing.T) {
	seen := map[[32]byte]int{}
	for at := range 192 {
		b := make([]byte, 192)
		b[at] = 128
		agrees(t, b)
		sum := sha.Sum(b)
		if other, there := seen[sum]; there {
			t.Errorf("a bit at %d and one at %d give the same hash", at, other)
		}
		seen[sum] = at
	}
}

// Sh1: the lengths.

func TestSumOfEveryLength(t *testing.T) {
	// The padded message takes another block from 56, 120, 184, .. bytes on.
	for n := range 400 {
		agrees(t, series(n, n))
		agrees(t, bytes.Repeat([]byte{255}, n))
		agrees(t, make([]byte, n))
	}
}

func TestTheLengthCounts(t *testing.T) {
	// What the padding of a message adds differs from the same bytes in the message itself.
	seen := map[string]int{}
	for n := range 200 {
		for i, b := range [][]byte{make([]byte, n), append([]byte{128}, make([]byte, n)...)} {
			s := sha.Hex(b)
			if other, there := seen[s]; there {
				t.Errorf("message %d of kind %d has the hash of message %d", n, i, other)
			}
			seen[s] = n
		}
	}
}

func TestSumOfManyBlocks(t *testing.T) {
	// The number of bits takes two, three and four bytes.
	for _, n := range []int{1023, 4095, 4096, 8191, 8192, 8247, 8248, 16384, 65536, 1<<21 - 1, 1 << 21, 1<<21 + 56} {
		agrees(t, series(n, 3))
	}
}

func TestHashesOfHashes(t *testing.T) {
	// Hashes of hashes go astray for good by one wrong step.
	b := []byte("newsreel")
	want := b
	for range 5000 {
		sum, right := sha.Sum(b), sha256.Sum256(want)
		b, want = sum[:], right[:]
	}
	if !bytes.Equal(b, want) {
		t.Errorf("5000 times the hash: %x, want %x", b, want)
	}
}

// Sh1: Hex.

func TestHexIsTheDigitsOfSum(t *testing.T) {
	for n := range 130 {
		b := series(n, 7)
		sum, s := sha.Sum(b), sha.Hex(b)
		if s != hexa.Put(sum[:]) {
			t.Errorf("Hex of %d bytes = %q, want the digits of %x", n, s, sum)
		}
		if len(s) != 64 || strings.Trim(s, "0123456789abcdef") != "" {
			t.Errorf("Hex of %d bytes = %q, want 64 small digits", n, s)
		}
	}
}

// R3 and R4.

func TestNoArgumentIsChanged(t *testing.T) {
	for _, n := range []int{0, 1, 55, 56, 63, 64, 65, 119, 120, 128, 129} {
		// Room behind the list would be written to by an append to it.
		whole := series(400, 9)
		sha.Sum(whole[100 : 100+n])
		sha.Hex(whole[100 : 100+n])
		if !bytes.Equal(whole, series(400, 9)) {
			t.Errorf("a hash of %d bytes changed its argument or what lies beside it", n)
		}
	}
}

func TestWhatLiesBesideTheListDoesNotCount(t *testing.T) {
	for _, n := range []int{0, 1, 55, 56, 63, 64, 65, 119, 120, 128, 129} {
		b := series(n, 11)
		inside := append(append(series(64, 12), b...), series(200, 13)...)
		if sha.Sum(inside[64:64+n]) != sha.Sum(b) || sha.Hex(inside[64:64+n]) != sha.Hex(b) {
			t.Errorf("the hash of %d bytes depends on what lies beside them", n)
		}
	}
}

func TestOneCallDoesNotAffectAnother(t *testing.T) {
	b := series(150, 1)
	first, digits := sha.Sum(b), sha.Hex(b)
	sha.Sum(series(500, 2))
	sha.Hex([]byte("other"))
	if sha.Sum(b) != first || sha.Hex(b) != digits {
		t.Error("the second hash of the same bytes is another one")
	}
}

func FuzzSha(f *testing.F) {
	for _, n := range []int{0, 1, 55, 56, 63, 64, 65, 119, 120, 128} {
		f.Add(series(n, n))
	}
	f.Fuzz(func(t *testing.T, b []byte) {
		kept := bytes.Clone(b)
		agrees(t, b)
		if !bytes.Equal(b, kept) {
			t.Errorf("%v became %v", kept, b)
		}
	})
}
