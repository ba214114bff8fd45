package wal_test

import (
	"bytes"
	"encoding/binary"
	"hash/crc32"
	"slices"
	"testing"

	"newsreel/api"
	"newsreel/disk"
	"newsreel/wal"
)

// A second log, after the chapter's words: what is done to the disk is a list of orders, and the records are kept one by one.

type twin struct {
	d       *disk.Disk
	gen     uint32
	size    int
	records [][]byte
	broken  bool
}

// exists reports whether a disk has a file with this name.
func exists(d *disk.Disk, name string) bool { return slices.Contains(d.List(), name) }

// first performs orders up to the first error, and returns it.
func first(d *disk.Disk, orders ...order) api.Errno {
	for _, o := range orders {
		if err := o(d); err != api.OK {
			return err
		}
	}
	return api.OK
}

// settingHead returns the orders that set the head.
func settingHead(gen uint32, size int) []order {
	return []order{write("head", 0, headOf(gen, uint32(size))), sync("head")}
}

// beginning returns the orders that begin a generation.
func beginning(d *disk.Disk, gen uint32, b []byte) []order {
	name, l := logName(gen), []order{}
	if exists(d, name) {
		l = append(l, remove(name))
	}
	l = append(l, create(name), write(name, 0, b), sync(name))
	if !exists(d, "head") {
		l = append(l, create("head"))
	}
	l = append(l, syncDir)
	l = append(l, settingHead(gen, len(b))...)
	if old := logName(gen - 1); gen > 1 && exists(d, old) {
		l = append(l, remove(old))
	}
	return l
}

// isLog reports whether s is log. and a number from 1 on.
func isLog(s string) bool {
	b := []byte(s)
	return bytes.HasPrefix(b, []byte("log.")) && len(b) > 4 && b[4] != '0' && len(bytes.Trim(b[4:], "0123456789")) == 0
}

// unframed returns the records of frames; false if b is something else.
func unframed(b []byte) ([][]byte, bool) {
	var l [][]byte
	for len(b) > 0 {
		if len(b) < 8 {
			return nil, false
		}
		n, sum := int64(binary.BigEndian.Uint32(b)), binary.BigEndian.Uint32(b[4:])
		b = b[8:]
		if n > maxRec || n > int64(len(b)) || crc32.ChecksumIEEE(b[:n]) != sum {
			return nil, false
		}
		l = append(l, b[:n])
		b = b[n:]
	}
	return l, true
}

// openTwin opens the log of a disk.
func openTwin(d *disk.Disk) (*twin, api.Errno) {
	h, err := d.Read("head")
	if err != api.OK && err != api.ErrNone {
		return nil, err
	}
	if len(h) == 0 {
		return &twin{d: d}, api.OK
	}
	if err := first(d, syncDir, sync("head")); err != api.OK {
		return nil, err
	}
	if len(h) != 16 || !bytes.Equal(h[12:], fill(4, 0)) || binary.BigEndian.Uint32(h[8:]) != crc32.ChecksumIEEE(h[:8]) || bytes.Equal(h[:4], fill(4, 0)) {
		return nil, api.ErrSum
	}
	gen, size := binary.BigEndian.Uint32(h), int64(binary.BigEndian.Uint32(h[4:]))
	if err := first(d, sync(logName(gen))); err != api.OK {
		return nil, err
	}
	b, _ := d.Read(logName(gen))
	if int64(len(b)) < size {
		return nil, api.ErrSum
	}
	l, valid := unframed(b[:size])
	if !valid {
		return nil, api.ErrSum
	}
	var others []order
	for _, name := range d.List() {
		if isLog(name) && name != logName(gen) {
			others = append(others, remove(name))
		}
	}
	if err := first(d, others...); err != api.OK {
		return nil, err
	}
	return &twin{d: d, gen: gen, size: int(size), records: l}, api.OK
}

// do performs orders, after which the second log has these records, in this many bytes.
func (v *twin) do(orders []order, gen uint32, size int, l [][]byte) api.Errno {
	if err := first(v.d, orders...); err != api.OK {
		v.broken = true
		return err
	}
	v.gen, v.size, v.records = gen, size, l
	return api.OK
}

func (v *twin) append(b []byte) api.Errno {
	if v == nil || v.broken {
		return api.ErrState
	}
	if len(b) > maxRec {
		return api.ErrLong
	}
	size := v.size + 8 + len(b)
	if size > maxFile {
		return api.ErrFull
	}
	if v.gen == 0 {
		return v.do(beginning(v.d, 1, frames(b)), 1, size, list(b))
	}
	name := logName(v.gen)
	orders := append([]order{write(name, v.size, frames(b)), sync(name)}, settingHead(v.gen, size)...)
	return v.do(orders, v.gen, size, append(slices.Clone(v.records), b))
}

func (v *twin) compact(l [][]byte) api.Errno {
	if v == nil || v.broken {
		return api.ErrState
	}
	size := 0
	for _, b := range l {
		if len(b) > maxRec {
			return api.ErrLong
		}
		size += 8 + len(b)
	}
	if size > maxFile {
		return api.ErrFull
	}
	return v.do(beginning(v.d, v.gen+1, frames(l...)), v.gen+1, size, l)
}

// pair is two disks to which the same was done, each with its log; a log that could not be opened is nil.
type pair struct {
	d, e *disk.Disk
	w    *wal.Wal
	v    *twin
	err  api.Errno // of the last call
}

// newPair returns two disks with this capacity, on which these orders were performed.
func newPair(t *testing.T, room int64, orders ...order) *pair {
	t.Helper()
	p := &pair{d: disk.New(room), e: disk.New(room)}
	each(t, p.d, orders...)
	each(t, p.e, orders...)
	return p
}

// call is one thing that is done to both disks.
type call func(p *pair) (api.Errno, api.Errno)

func opening(p *pair) (api.Errno, api.Errno) {
	w, err := wal.Open(p.d)
	v, want := openTwin(p.e)
	p.w, p.v = w, v
	return err, want
}

func appending(b []byte) call {
	return func(p *pair) (api.Errno, api.Errno) { return p.w.Append(b), p.v.append(b) }
}

func compacting(l ...[]byte) call {
	return func(p *pair) (api.Errno, api.Errno) { return p.w.Compact(l...), p.v.compact(l) }
}

// ordering does something to the disks themselves.
func ordering(o order) call {
	return func(p *pair) (api.Errno, api.Errno) { return o(p.d), o(p.e) }
}

// setting does something to the disks that returns no error.
func setting(change func(d *disk.Disk)) call {
	return ordering(func(d *disk.Disk) api.Errno {
		change(d)
		return api.OK
	})
}

func tripping(n int) call { return setting(func(d *disk.Disk) { d.Trip(n) }) }

func stopping(n int) call { return setting(func(d *disk.Disk) { d.Stop(n) }) }

// crashing reboots both disks, and forgets their logs.
func crashing(bits []bool, ops int) call {
	return func(p *pair) (api.Errno, api.Errno) {
		p.d.Reboot(bits, ops)
		p.e.Reboot(bits, ops)
		p.w, p.v = nil, nil
		return api.OK, api.OK
	}
}

// play makes calls one after the other, and fails the test unless both logs and both disks are alike after each of them.
func (p *pair) play(t *testing.T, calls ...call) {
	t.Helper()
	for i, c := range calls {
		err, want := c(p)
		if err != want {
			t.Fatalf("call %d of %d returned the error %d, want %d", i+1, len(calls), err, want)
		}
		p.err = err
		p.agree(t)
		if t.Failed() {
			t.Fatalf("after call %d of %d", i+1, len(calls))
		}
	}
}

// agree fails the test unless both disks and both logs are alike.
func (p *pair) agree(t *testing.T) {
	t.Helper()
	if p.d.Down() != p.e.Down() || p.d.Ops() != p.e.Ops() {
		t.Errorf("Down() = %t, Ops() = %d, want %t, %d", p.d.Down(), p.d.Ops(), p.e.Down(), p.e.Ops())
	}
	holds(t, p.d, contents(p.e)...)
	if (p.w == nil) != (p.v == nil) {
		t.Errorf("there is a log: %t", p.w != nil)
	}
	if p.v == nil {
		has(t, p.w, true)
		return
	}
	has(t, p.w, p.v.broken, p.v.records...)
}
