package wal_test

import (
	"bytes"
	"encoding/binary"
	"fmt"
	"hash/crc32"
	"math"
	"slices"
	"testing"

	"newsreel/api"
	"newsreel/disk"
	"newsreel/wal"
)

// The limits are written out, so that the tests do not follow them wherever they go.
const (
	maxRec  = 32768
	maxFile = 65536
)

// all is a number of operations on a directory that is never reached.
const all = math.MaxInt

// join returns the bytes of all parts, in new memory.
func join(parts ...[]byte) []byte { return slices.Concat(parts...) }

// fill returns n bytes that are all x.
func fill(n int, x byte) []byte { return bytes.Repeat([]byte{x}, n) }

// series returns n bytes without a pattern, that differ for each seed.
func series(n, seed int) []byte {
	b := make([]byte, n)
	x := uint32(seed)*2654435761 + 1
	for i := range b {
		x = x*1664525 + 1013904223
		b[i] = byte(x >> 24)
	}
	return b
}

// list returns a list of records.
func list(l ...[]byte) [][]byte { return l }

// number returns n in four bytes, the most significant one first.
func number(n uint32) []byte { return binary.BigEndian.AppendUint32(nil, n) }

// frames returns the frames of records, also of those that are too long, without the package's help.
func frames(l ...[]byte) []byte {
	var b []byte
	for _, r := range l {
		b = join(b, number(uint32(len(r))), number(crc32.ChecksumIEEE(r)), r)
	}
	return b
}

// headOf returns the head of a generation with this number of bytes, likewise.
func headOf(gen, size uint32) []byte {
	b := join(number(gen), number(size))
	return join(b, number(crc32.ChecksumIEEE(b)), fill(4, 0))
}

// logName returns the name of a generation's file.
func logName(gen uint32) string { return fmt.Sprintf("log.%d", gen) }

// order is one call of a method of a disk.
type order func(d *disk.Disk) api.Errno

func create(name string) order { return func(d *disk.Disk) api.Errno { return d.Create(name) } }

func write(name string, at int, b []byte) order {
	return func(d *disk.Disk) api.Errno { return d.Write(name, at, b) }
}

func sync(name string) order { return func(d *disk.Disk) api.Errno { return d.Sync(name) } }

func syncDir(d *disk.Disk) api.Errno { return d.SyncDir() }

func remove(name string) order { return func(d *disk.Disk) api.Errno { return d.Remove(name) } }

// file returns the orders that give a disk a file with these bytes, and sync it.
func file(name string, b []byte) []order {
	return []order{create(name), write(name, 0, b), sync(name)}
}

// logFiles returns the orders that give a disk the files of a log with these records, and sync them.
func logFiles(gen uint32, l ...[]byte) []order {
	b := frames(l...)
	return slices.Concat(file(logName(gen), b), file("head", headOf(gen, uint32(len(b)))), []order{syncDir})
}

// each fails the test unless each of the orders returns OK.
func each(t *testing.T, d *disk.Disk, orders ...order) {
	t.Helper()
	for i, o := range orders {
		if err := o(d); err != api.OK {
			t.Fatalf("order %d of %d returned the error %d", i+1, len(orders), err)
		}
	}
}

// made returns a disk with much room, on which these orders were performed.
func made(t *testing.T, orders ...[]order) *disk.Disk {
	t.Helper()
	d := disk.New(1 << 30)
	each(t, d, slices.Concat(orders...)...)
	return d
}

// held is a name and the contents of its file.
type held struct {
	name string
	b    []byte
}

// contents returns all files of a disk.
func contents(d *disk.Disk) []held {
	var l []held
	for _, name := range d.List() {
		b, _ := d.Read(name)
		l = append(l, held{name, b})
	}
	return l
}

// sameFiles reports whether two disks have the same files.
func sameFiles(l, m []held) bool {
	return slices.EqualFunc(l, m, func(g, h held) bool { return g.name == h.name && bytes.Equal(g.b, h.b) })
}

// tell returns what is shown of files in messages.
func tell(l []held) string {
	s := ""
	for _, h := range l {
		s += fmt.Sprintf(" %s: %d bytes %v;", h.name, len(h.b), start(h.b))
	}
	return s
}

// start returns the beginning of a list of bytes: a failure need not tell all of it.
func start(b []byte) []byte { return b[:min(len(b), 20)] }

// holds fails the test unless the disk has these files, in the order of their names.
func holds(t *testing.T, d *disk.Disk, want ...held) {
	t.Helper()
	if l := contents(d); !sameFiles(l, want) {
		t.Errorf("the disk has%s want%s", tell(l), tell(want))
	}
}

// counted fails the test unless Ops returns this number.
func counted(t *testing.T, d *disk.Disk, want int) {
	t.Helper()
	if n := d.Ops(); n != want {
		t.Errorf("Ops() = %d, want %d", n, want)
	}
}

// same reports whether two lists have the same records; no bytes and nil are equal, as R5 says.
func same(l, m [][]byte) bool { return slices.EqualFunc(l, m, bytes.Equal) }

// brief returns what is shown of records in messages.
func brief(l [][]byte) string {
	s := fmt.Sprintf("%d records", len(l))
	for _, r := range l[:min(len(l), 4)] {
		s += fmt.Sprintf(", %d bytes %v", len(r), start(r))
	}
	return s
}

// has fails the test unless the log has these records, and is broken or not.
func has(t *testing.T, w *wal.Wal, broken bool, want ...[]byte) {
	t.Helper()
	if l := w.Records(); !same(l, want) {
		t.Errorf("Records() = %s, want %s", brief(l), brief(want))
	}
	if w.Broken() != broken {
		t.Errorf("Broken() = %t", w.Broken())
	}
}

// opens fails the test unless Open returns a log with these records; it returns the log.
func opens(t *testing.T, d *disk.Disk, want ...[]byte) *wal.Wal {
	t.Helper()
	w, err := wal.Open(d)
	if w == nil || err != api.OK {
		t.Fatalf("Open = %t, %d, want a log, 0", w != nil, err)
	}
	has(t, w, false, want...)
	return w
}

// refuses fails the test unless Open returns no log, and this error.
func refuses(t *testing.T, d *disk.Disk, want api.Errno) {
	t.Helper()
	if w, err := wal.Open(d); w != nil || err != want {
		t.Errorf("Open = a log: %t, %d, want none, %d", w != nil, err, want)
	}
}

// returned fails the test unless both errors are equal.
func returned(t *testing.T, err, want api.Errno) {
	t.Helper()
	if err != want {
		t.Errorf("returned the error %d, want %d", err, want)
	}
}

// The chapter's example, with the checksum worked out elsewhere.

func TestExample(t *testing.T) {
	d := disk.New(100)
	w := opens(t, d)
	returned(t, w.Append([]byte{7}), api.OK)
	holds(t, d, held{"head", []byte{0, 0, 0, 1, 0, 0, 0, 9, 33, 158, 78, 125, 0, 0, 0, 0}}, held{"log.1", []byte{0, 0, 0, 1, 76, 102, 122, 46, 7}})
	has(t, w, false, []byte{7})
	opens(t, d, []byte{7})
}

// Wl3.

// useless fails the test unless no method of a log does or returns anything.
func useless(t *testing.T, w *wal.Wal) {
	t.Helper()
	// Also ahead of the first call, which could break it.
	has(t, w, true)
	for range 2 {
		returned(t, w.Append([]byte{7}), api.ErrState)
		returned(t, w.Append(nil), api.ErrState)
		returned(t, w.Append(fill(maxRec+1, 1)), api.ErrState)
		returned(t, w.Compact(), api.ErrState)
		returned(t, w.Compact([]byte{7}, nil), api.ErrState)
		returned(t, w.Compact(nil, fill(maxRec+1, 1)), api.ErrState)
		returned(t, w.Compact(fill(maxRec, 1), fill(maxRec, 1)), api.ErrState)
		has(t, w, true)
	}
}

func TestLogsThatOpenDidNotCreate(t *testing.T) {
	useless(t, nil)
	useless(t, &wal.Wal{})
	useless(t, new(wal.Wal))
	var w wal.Wal
	useless(t, &w)
}

func TestBrokenLogs(t *testing.T) {
	for _, fail := range []struct {
		selecting func(d *disk.Disk)
		err       api.Errno
	}{
		{func(d *disk.Disk) { d.Trip(1) }, api.ErrIO},
		{func(d *disk.Disk) { d.Stop(1) }, api.ErrDown},
	} {
		for _, call := range []func(w *wal.Wal) api.Errno{
			func(w *wal.Wal) api.Errno { return w.Append([]byte{9}) },
			func(w *wal.Wal) api.Errno { return w.Compact([]byte{9}) },
			func(w *wal.Wal) api.Errno { return w.Compact() },
		} {
			for _, before := range [][][]byte{nil, list([]byte{7}), list([]byte{7}, nil, []byte{8, 8})} {
				d := made(t)
				w := opens(t, d)
				for _, b := range before {
					returned(t, w.Append(b), api.OK)
				}
				fail.selecting(d)
				returned(t, call(w), fail.err)
				has(t, w, true, before...)
				n := d.Ops()
				for _, b := range list(nil, []byte{7}, fill(maxRec, 1), fill(maxRec+1, 1)) {
					returned(t, w.Append(b), api.ErrState)
					returned(t, w.Compact(b), api.ErrState)
					returned(t, w.Compact(b, b, b, b), api.ErrState)
				}
				returned(t, w.Compact(), api.ErrState)
				has(t, w, true, before...)
				// It stays broken when the disk is well again, and does nothing to it.
				d.Reboot(nil, 0)
				returned(t, w.Append([]byte{7}), api.ErrState)
				returned(t, w.Compact([]byte{7}), api.ErrState)
				has(t, w, true, before...)
				counted(t, d, n)
				opens(t, d, before...)
			}
		}
	}
}

func TestALogWithoutErrorsIsNotBroken(t *testing.T) {
	d := made(t)
	w := opens(t, d)
	var want [][]byte
	for i := range 30 {
		r := series(i*i, i)
		returned(t, w.Append(r), api.OK)
		want = append(want, r)
		has(t, w, false, want...)
		if i%7 == 6 {
			want = want[3:]
			returned(t, w.Compact(want...), api.OK)
			has(t, w, false, want...)
		}
		opens(t, d, want...)
	}
}

// R3.

// spoil changes all bytes, also those behind the end in the same memory.
func spoil(b []byte) {
	b = b[:cap(b)]
	for i := range b {
		b[i] ^= 255
	}
}

func TestArguments(t *testing.T) {
	d := made(t)
	w := opens(t, d)
	memory := series(40, 1)
	keep := bytes.Clone(memory)
	l := [][]byte{memory[:10], memory[10:10], memory[5:30], nil}
	want := list(bytes.Clone(l[0]), nil, bytes.Clone(l[2]), nil)
	calls := []func(){
		func() { returned(t, w.Append(l[0]), api.OK) },
		func() { returned(t, w.Append(l[2]), api.OK) },
		func() { returned(t, w.Compact(l...), api.OK) },
		func() { returned(t, w.Append(memory[3:8]), api.OK) },
	}
	for i, call := range calls {
		call()
		if !bytes.Equal(memory, keep) || len(l) != 4 || !same(l, want) {
			t.Fatalf("call %d changed its arguments", i+1)
		}
		// What is given is not kept: a later change of it is not seen.
		before := w.Records()
		spoil(memory)
		l[0], l[3] = nil, []byte{1}
		has(t, w, false, before...)
		opens(t, d, before...)
		spoil(memory)
		l[0], l[3] = memory[:10], nil
	}
}

func TestResults(t *testing.T) {
	want := list([]byte{7}, nil, series(20, 1), series(100, 2))
	for _, w := range []*wal.Wal{
		opens(t, made(t, logFiles(3, want...)), want...),
		appended(t, want),
		compacted(t, want),
	} {
		l, m := w.Records(), w.Records()
		for i := range l {
			spoil(l[i])
			_ = append(l[i], 77, 78, 79)
			if i+1 < len(l) && !bytes.Equal(l[i+1], want[i+1]) {
				t.Errorf("the records %d and %d share memory", i, i+1)
			}
		}
		for i := range l {
			l[i] = nil
		}
		_ = append(l[:1], []byte{77})
		if !same(m, want) {
			t.Error("two results share memory")
		}
		has(t, w, false, want...)
		returned(t, w.Append([]byte{9}), api.OK)
		has(t, w, false, append(slices.Clone(want), []byte{9})...)
		if !same(m, want) {
			t.Error("a result changes with the log")
		}
	}
}

// appended returns a log to which these records were appended.
func appended(t *testing.T, l [][]byte) *wal.Wal {
	t.Helper()
	w := opens(t, made(t))
	for _, r := range l {
		returned(t, w.Append(r), api.OK)
	}
	return w
}

// compacted returns a log of which these records are the only ones.
func compacted(t *testing.T, l [][]byte) *wal.Wal {
	t.Helper()
	w := opens(t, made(t))
	returned(t, w.Append([]byte{1}), api.OK)
	returned(t, w.Compact(l...), api.OK)
	return w
}

func TestLogsDoNotDependOnOthers(t *testing.T) {
	d, e := made(t), made(t)
	v, w := opens(t, d), opens(t, e)
	returned(t, v.Append([]byte{1}), api.OK)
	has(t, w, false)
	returned(t, w.Compact([]byte{2}, []byte{3}), api.OK)
	has(t, v, false, []byte{1})
	e.Trip(1)
	returned(t, w.Append(nil), api.ErrIO)
	returned(t, v.Append([]byte{4}), api.OK)
	has(t, v, false, []byte{1}, []byte{4})
	has(t, w, true, []byte{2}, []byte{3})
}
