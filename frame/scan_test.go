package frame_test

import (
	"bytes"
	"slices"
	"testing"

	"newsreel/api"
	"newsreel/frame"
)

// list returns a list of records.
func list(l ...[]byte) [][]byte { return l }

// frames returns the frames of all records, one after the other, without the package's help.
func frames(l [][]byte) []byte {
	var b []byte
	for _, record := range l {
		b = append(b, framed(record)...)
	}
	return b
}

// scans fails the test unless Scan(b) returns these records and this number.
func scans(t *testing.T, b []byte, want [][]byte, n int) {
	t.Helper()
	if l, k := frame.Scan(b); !slices.EqualFunc(l, want, bytes.Equal) || k != n {
		t.Errorf("Scan(%d bytes, the first %v) = %d records, %d, want %d, %d", len(b), start(b), len(l), k, len(want), n)
	}
}

// scansLiterally fails the test unless Scan does with b what the chapter's words say.
func scansLiterally(t *testing.T, b []byte) {
	t.Helper()
	var want [][]byte
	rest := b
	for {
		record, n, err := literal(rest)
		if err != api.OK {
			break
		}
		want = append(want, record)
		rest = rest[n:]
	}
	scans(t, b, want, len(b)-len(rest))
}

// lists are of no, one, several and many records.
func lists() [][][]byte {
	return [][][]byte{
		nil,
		list(nil),
		list([]byte{7}),
		list(nil, nil),
		list(nil, []byte{7}),
		list([]byte{7}, nil),
		list([]byte{7}, []byte{7}),
		list([]byte{0}, []byte{0, 0}, make([]byte, 8), make([]byte, 100)),
		list(series(5, 1), nil, series(8, 2), series(1, 3), nil, series(300, 4), series(16, 5)),
		list(framed([]byte{7}), framed(nil), framed([]byte{7})[:5], join(framed(nil), framed(nil))),
		list(series(32768, 1), []byte{7}, series(32767, 2), nil, series(32768, 3)),
		records(),
	}
}

// noFrames are bytes that are not the beginning of a frame.
func noFrames() map[string][]byte {
	return map[string][]byte{
		"a length that is too great":              head(32769, 0),
		"such a one, with all its bytes":          framed(series(32769, 1)),
		"such a one, with a frame behind it":      join(head(32769, 0), framed([]byte{7})),
		"the greatest length":                     fill(8, 255),
		"many bytes 255":                          fill(1000, 255),
		"a checksum that differs":                 join(head(1, 9), []byte{7}),
		"such a one, with a frame behind it ":     join(head(1, 9), []byte{7}, framed([]byte{7})),
		"a checksum of no bytes that differs":     head(0, 1),
		"a record that differs":                   flip(framed(series(20, 1)), 100),
		"a frame one byte further on":             join([]byte{255}, framed([]byte{7})),
		"a frame with the bytes turned around":    {1, 0, 0, 0, 46, 122, 102, 76, 7},
		"a frame with its numbers changed places": {76, 102, 122, 46, 0, 0, 0, 1, 7},
	}
}

// Fr2.

func TestScanOfNothing(t *testing.T) {
	scans(t, nil, nil, 0)
	scans(t, []byte{}, nil, 0)
	for n := range 8 {
		scans(t, make([]byte, n), nil, 0)
	}
}

func TestScanOfExamples(t *testing.T) {
	var all []byte
	var l [][]byte
	for _, c := range examples {
		scans(t, c.frame, list(c.b), len(c.frame))
		scans(t, join(c.frame, c.frame), list(c.b, c.b), 2*len(c.frame))
		all, l = append(all, c.frame...), append(l, c.b)
		scans(t, all, l, len(all))
	}
	// Written out: records 7, none and 97, and one byte more.
	b := []byte{0, 0, 0, 1, 76, 102, 122, 46, 7, 0, 0, 0, 0, 0, 0, 0, 0, 0, 0, 0, 1, 232, 183, 190, 67, 97, 0}
	scans(t, b, list([]byte{7}, nil, []byte{97}), 26)
	scans(t, b[:26], list([]byte{7}, nil, []byte{97}), 26)
	scans(t, b[:25], list([]byte{7}, nil), 17)
}

func TestScanOfSeveral(t *testing.T) {
	for _, l := range lists() {
		b := frames(l)
		scans(t, b, l, len(b))
	}
}

func TestScanOfManyFramesOfNoBytes(t *testing.T) {
	for _, count := range []int{1, 2, 100, 4096, 100000} {
		l := make([][]byte, count)
		for more := range 8 {
			scans(t, make([]byte, 8*count+more), l, 8*count)
		}
		scans(t, join(make([]byte, 8*count), framed([]byte{7})), append(l, []byte{7}), 8*count+9)
		scans(t, join(make([]byte, 8*count), []byte{0, 0, 0, 0, 1, 0, 0, 0}), l, 8*count)
	}
}

func TestScanOfManyFramesOfOneByte(t *testing.T) {
	l := make([][]byte, 20000)
	for i := range l {
		l[i] = []byte{byte(i)}
	}
	scans(t, frames(l), l, 9*len(l))
}

// Fr3: what follows the frames.

func TestScanOfFramesWithOtherBytesBehind(t *testing.T) {
	for _, l := range lists() {
		b := frames(l)
		for name, tail := range noFrames() {
			if _, _, err := literal(tail); err == api.OK {
				t.Fatalf("%s: the bytes are a frame", name)
			}
			scans(t, join(b, tail), l, len(b))
		}
	}
}

func TestScanOfFramesWithABeginningBehind(t *testing.T) {
	for _, l := range lists() {
		b := frames(l)
		for _, record := range [][]byte{nil, {7}, series(20, 1), series(32768, 1)} {
			f := framed(record)
			for _, n := range []int{0, 1, 2, 3, 4, 5, 6, 7, 8, 9, 20, 27, 1000, 32775, 32776} {
				if n < len(f) {
					scans(t, join(b, f[:n]), l, len(b))
				}
			}
			// And all of it.
			scans(t, join(b, f), append(slices.Clone(l), record), len(b)+len(f))
		}
	}
}

func TestScanOfFramesWithAnyBytesBehind(t *testing.T) {
	b := frames(list([]byte{7}, nil, series(20, 1)))
	for _, tail := range tails() {
		scansLiterally(t, join(b, tail))
	}
	for x := range 256 {
		scans(t, join(b, []byte{byte(x)}), list([]byte{7}, nil, series(20, 1)), len(b))
		scansLiterally(t, join(b, fill(8, byte(x))))
		scansLiterally(t, join(b, fill(40, byte(x))))
		scansLiterally(t, join(b, []byte{byte(x)}, b))
	}
}

func TestScanStopsAtTheFirstError(t *testing.T) {
	records := list([]byte{7}, nil, series(20, 1), []byte{8, 9}, nil)
	for at := range len(records) + 1 {
		ahead, behind := frames(records[:at]), frames(records[at:])
		for _, wrong := range noFrames() {
			// What is behind the error is not looked at, frames or not.
			scans(t, join(ahead, wrong, behind), records[:at], len(ahead))
		}
	}
}

func TestScanOfChangedBits(t *testing.T) {
	records := list([]byte{7}, nil, series(20, 1), []byte{8, 9})
	b := frames(records)
	at := 0
	for i, record := range records {
		for bit := 8 * at; bit < 8*(at+8+len(record)); bit++ {
			changed := flip(b, bit)
			// The frames ahead of the changed one are the records ahead of it.
			scans(t, changed, records[:i], at)
			scansLiterally(t, changed)
		}
		at += 8 + len(record)
	}
}

func TestScanOfFramesThatAreCutOff(t *testing.T) {
	for _, l := range lists() {
		b := frames(l)
		// Places that matter: all, or where there are many bytes, those about the ends of frames.
		whole, ends := 0, []int{0}
		for _, record := range l {
			whole += 8 + len(record)
			ends = append(ends, whole)
		}
		for i, end := range ends {
			next := len(b)
			if i+1 < len(ends) {
				next = ends[i+1] - 1
			}
			for at := end; at <= next; at++ {
				if at < end+30 || at > next-3 {
					scans(t, b[:at], l[:i], end)
				}
			}
		}
	}
}

func TestScanDoesNotReadOn(t *testing.T) {
	// A list that ends within a frame, and one that ends behind it, with the rest of the bytes in its memory.
	b := frames(list(series(10, 1), series(20, 2)))
	scans(t, b[:18], list(series(10, 1)), 18)
	scans(t, b[:45], list(series(10, 1)), 18)
	scans(t, b[:46], list(series(10, 1), series(20, 2)), 46)
	// And one that begins within a frame.
	scans(t, b[18:], list(series(20, 2)), 28)
	scansLiterally(t, b[17:])
}

func TestScanIsTakeRepeated(t *testing.T) {
	for _, l := range lists() {
		for _, tail := range tails() {
			b := join(frames(l), tail)
			var want [][]byte
			at := 0
			for {
				record, n, err := frame.Take(b[at:])
				if err != api.OK {
					break
				}
				want, at = append(want, record), at+n
			}
			scans(t, b, want, at)
		}
	}
}

func TestScanInvertsPut(t *testing.T) {
	for _, l := range lists() {
		var b []byte
		for _, record := range l {
			f, err := frame.Put(record)
			if err != api.OK {
				t.Fatalf("Put(%d bytes) = %d", len(record), err)
			}
			b = append(b, f...)
		}
		scans(t, b, l, len(b))
	}
}

// R3 and R4.

func TestScannedRecordsAreNewMemory(t *testing.T) {
	for _, l := range lists() {
		b := join(frames(l), fill(9, 255))
		keep := bytes.Clone(b)
		first, _ := frame.Scan(b)
		second, n := frame.Scan(b)
		for i := range first {
			spoil(first[i])
			// What is appended to one record is not seen in the next one.
			_ = append(first[i], 77, 78, 79)
			if i+1 < len(first) && !bytes.Equal(first[i+1], l[i+1]) {
				t.Errorf("the records %d and %d share memory", i, i+1)
			}
			first[i] = nil
		}
		_ = append(first, []byte{77})
		if !bytes.Equal(b, keep) {
			t.Error("the records lie in the bytes that were given")
		}
		scans(t, b, l, n)
		spoil(b)
		if !slices.EqualFunc(second, l, bytes.Equal) {
			t.Error("the records change with the bytes that were given, or with those of an earlier call")
		}
	}
}
