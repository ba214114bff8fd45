package sha

import (
	"bytes"
	"encoding/binary"
	"testing"
)

// Sh1: the padding. A message whose number of bits takes all eight bytes is too long to be hashed in a test, so that its end is asked directly.

func TestEnding(t *testing.T) {
	for _, size := range []int{0, 1, 55, 56, 63, 64, 119, 120, 1 << 13, 1 << 21, 1<<29 - 1, 1 << 29, 1<<31 - 1, 0x0123456789abcdef} {
		rest := bytes.Repeat([]byte{7}, size%64)
		end := ending(rest, size)
		zeros := 55 - len(rest)
		if zeros < 0 {
			zeros += 64
		}
		want := append(bytes.Clone(rest), 128)
		want = append(want, make([]byte, zeros)...)
		want = binary.BigEndian.AppendUint64(want, uint64(size)*8)
		if !bytes.Equal(end, want) {
			t.Errorf("the end of a message of %d bytes is %v, want %v", size, end, want)
		}
	}
}
