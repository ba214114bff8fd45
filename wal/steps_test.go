package wal_test

import (
	"bytes"
	"slices"
	"testing"

	"newsreel/api"
	"newsreel/disk"
	"newsreel/wal"
)

// crash is a way in which a disk crashes.
type crash struct {
	bits []bool
	ops  int
}

// crashes are ways that tell apart what is written, what is synced, and in which order.
func crashes() []crash {
	var l []crash
	for ops := range 7 {
		l = append(l, crash{nil, ops}, crash{slices.Repeat([]bool{true}, 20), ops}, crash{slices.Repeat([]bool{true, false}, 10), ops})
		for i := range 6 {
			bits := make([]bool, i+1)
			bits[i] = true
			l = append(l, crash{bits, ops})
		}
	}
	return l
}

// stepwise fails the test unless a call executes these steps in this order, each of them only if those ahead of it had no error, and breaks the log with the first error: the disk is then as it is after the steps ahead, now and after each crash.
func stepwise(t *testing.T, prepared func() (*disk.Disk, *wal.Wal), call func(d *disk.Disk, w *wal.Wal) api.Errno, steps ...order) {
	t.Helper()
	for n := range len(steps) + 1 {
		for i, c := range append(crashes(), crash{nil, -1}) {
			for _, stops := range []bool{false, true} {
				d, w := prepared()
				ops, before := d.Ops(), w.Records()
				want := api.ErrIO
				if stops {
					d.Stop(n + 1)
					want = api.ErrDown
				} else {
					d.Trip(n + 1)
				}
				if n == len(steps) {
					want = api.OK
				}
				returned(t, call(d, w), want)
				counted(t, d, ops+min(n+1, len(steps)))
				if want != api.OK && w != nil {
					has(t, w, true, before...)
				}
				e, _ := prepared()
				each(t, e, steps[:n]...)
				if !stops {
					holds(t, d, contents(e)...)
				}
				d.Reboot(c.bits, c.ops)
				e.Reboot(c.bits, c.ops)
				holds(t, d, contents(e)...)
				if t.Failed() {
					t.Fatalf("%d of %d steps, crash %d, down: %t", n, len(steps), i, stops)
				}
			}
		}
	}
}

// opened returns what makes a disk on which these orders were performed, with the log on it that has these records, and performs others then.
func opened(t *testing.T, l [][]byte, orders []order, later ...order) func() (*disk.Disk, *wal.Wal) {
	return func() (*disk.Disk, *wal.Wal) {
		d := made(t, orders)
		w := opens(t, d, l...)
		each(t, d, later...)
		return d, w
	}
}

// Wl2: the steps of Append and Compact.

// none are disks without a log, and what is done to them to begin generation 1 with these frames.
func none(t *testing.T, b []byte) []func(call func(d *disk.Disk, w *wal.Wal) api.Errno) {
	file1 := []order{create("log.1"), write("log.1", 0, b), sync("log.1")}
	begin := func(prepared func() (*disk.Disk, *wal.Wal), steps ...[]order) func(call func(d *disk.Disk, w *wal.Wal) api.Errno) {
		return func(call func(d *disk.Disk, w *wal.Wal) api.Errno) {
			t.Helper()
			stepwise(t, prepared, call, slices.Concat(append(steps, []order{syncDir, write("head", 0, headOf(1, uint32(len(b)))), sync("head")})...)...)
		}
	}
	head := []order{create("head")}
	old := []order{remove("log.1")}
	stale := frames([]byte{1, 2, 3, 4}, series(50, 3))
	return []func(call func(d *disk.Disk, w *wal.Wal) api.Errno){
		begin(opened(t, nil, nil), file1, head),
		// With an empty head, synced and not.
		begin(opened(t, nil, []order{create("head"), syncDir}), file1),
		begin(opened(t, nil, []order{create("head")}), file1),
		// With what an interrupted call left.
		begin(opened(t, nil, slices.Concat(file("log.1", stale), []order{syncDir})), old, file1, head),
		begin(opened(t, nil, slices.Concat(file("log.1", stale), []order{create("head"), syncDir})), old, file1),
		begin(opened(t, nil, []order{create("log.1"), write("log.1", 0, stale)}), old, file1, head),
		// A file of generation 0 is none of the log's, nor are the others.
		begin(opened(t, nil, slices.Concat(file("log.0", []byte{5}), file("log.2", []byte{6}), file("a", nil))), file1, head),
	}
}

func TestStepsInGeneration0(t *testing.T) {
	for _, r := range [][]byte{{7}, nil, series(100, 1)} {
		for _, check := range none(t, frames(r)) {
			check(func(_ *disk.Disk, w *wal.Wal) api.Errno { return w.Append(r) })
			check(func(_ *disk.Disk, w *wal.Wal) api.Errno { return w.Compact(r) })
		}
	}
	l := list([]byte{7}, nil, series(20, 1), series(3, 2))
	for _, check := range none(t, frames(l...)) {
		check(func(_ *disk.Disk, w *wal.Wal) api.Errno { return w.Compact(l...) })
	}
	// Also no bytes are written: that is a step as well.
	for _, check := range none(t, nil) {
		check(func(_ *disk.Disk, w *wal.Wal) api.Errno { return w.Compact() })
	}
}

func TestStepsOfAppend(t *testing.T) {
	for _, gen := range []uint32{1, 2, 10, 1<<32 - 1} {
		name := logName(gen)
		for _, before := range [][][]byte{nil, list([]byte{7}), list([]byte{7}, series(20, 1), nil)} {
			at := len(frames(before...))
			for _, r := range [][]byte{{9}, nil, series(40, 2)} {
				b := frames(r)
				steps := []order{write(name, at, b), sync(name), write("head", 0, headOf(gen, uint32(at+len(b)))), sync("head")}
				call := func(_ *disk.Disk, w *wal.Wal) api.Errno { return w.Append(r) }
				stepwise(t, opened(t, before, logFiles(gen, before...)), call, steps...)
				if gen == 2 {
					// With bytes behind the log, and other files.
					stepwise(t, opened(t, before, slices.Concat(logFiles(gen, before...), []order{write(name, at, series(70, 3))})), call, steps...)
					stepwise(t, opened(t, before, logFiles(gen, before...), slices.Concat(file("log.1", []byte{1}), file("log.3", []byte{2}))...), call, steps...)
				}
			}
		}
	}
}

func TestStepsOfCompact(t *testing.T) {
	before := list([]byte{7}, series(20, 1), nil)
	for _, gen := range []uint32{1, 2, 9, 1<<32 - 2} {
		for _, l := range [][][]byte{nil, list([]byte{9}), list(nil), list(series(20, 2), nil, []byte{1, 2}, []byte{1, 2})} {
			b := frames(l...)
			name, old := logName(gen+1), logName(gen)
			call := func(_ *disk.Disk, w *wal.Wal) api.Errno { return w.Compact(l...) }
			file1 := []order{create(name), write(name, 0, b), sync(name)}
			head := []order{syncDir, write("head", 0, headOf(gen+1, uint32(len(b)))), sync("head")}
			stepwise(t, opened(t, before, logFiles(gen, before...)), call, slices.Concat(file1, head, []order{remove(old)})...)
			if gen > 2 {
				continue
			}
			// The next one's file exists.
			stepwise(t, opened(t, before, logFiles(gen, before...), file(name, series(90, 3))...), call, slices.Concat([]order{remove(name)}, file1, head, []order{remove(old)})...)
			stepwise(t, opened(t, before, logFiles(gen, before...), create(name)), call, slices.Concat([]order{remove(name)}, file1, head, []order{remove(old)})...)
			// The previous one's does not, nor does the head.
			stepwise(t, opened(t, before, logFiles(gen, before...), remove(old)), call, slices.Concat(file1, head)...)
			stepwise(t, opened(t, before, logFiles(gen, before...), remove("head")), call, slices.Concat(file1, []order{create("head")}, head, []order{remove(old)})...)
		}
	}
}

func TestGenerationsBehindTheGreatestOne(t *testing.T) {
	// A head cannot tell of a greater number: the next one is 1 again.
	const last = 1<<32 - 1
	steps := slices.Concat(file("log.1", frames([]byte{9})), []order{syncDir, write("head", 0, headOf(1, 9)), sync("head"), remove(logName(last))})
	stepwise(t, opened(t, list([]byte{7}), logFiles(last, []byte{7})), func(_ *disk.Disk, w *wal.Wal) api.Errno { return w.Compact([]byte{9}) }, steps...)
}

// Wl2: results and errors.

func TestAppend(t *testing.T) {
	d := made(t)
	w := opens(t, d)
	var want [][]byte
	for i, r := range [][]byte{{7}, nil, {8, 9}, {}, {0}, series(16, 1), series(1000, 2), frames([]byte{7}), series(maxRec, 3), series(maxRec-1500, 4)} {
		returned(t, w.Append(r), api.OK)
		want = append(want, r)
		has(t, w, false, want...)
		b := frames(want...)
		holds(t, d, held{"head", headOf(1, uint32(len(b)))}, held{"log.1", b})
		if i%2 == 0 {
			w = opens(t, d, want...)
		}
	}
	d.Reboot(nil, 0)
	opens(t, d, want...)
}

func TestCompact(t *testing.T) {
	d := made(t)
	w := opens(t, d)
	var gen uint32
	for i, l := range [][][]byte{nil, list([]byte{7}), list(nil), list(nil, nil), list([]byte{8, 9}, series(100, 1), []byte{7}), nil, nil, list(series(maxRec, 2)), slices.Repeat(list(nil), 30), list([]byte{7}, []byte{7})} {
		for range 2 {
			returned(t, w.Compact(l...), api.OK)
			gen++
			has(t, w, false, l...)
			b := frames(l...)
			holds(t, d, held{"head", headOf(gen, uint32(len(b)))}, held{logName(gen), b})
		}
		if i%2 == 0 {
			w = opens(t, d, l...)
		}
	}
	returned(t, w.Append([]byte{3}), api.OK)
	holds(t, d, held{"head", headOf(gen, 27)}, held{logName(gen), frames([]byte{7}, []byte{7}, []byte{3})})
	d.Reboot(nil, 0)
	opens(t, d, []byte{7}, []byte{7}, []byte{3})
}

// unchanged fails the test unless a call returns this error, and neither the log nor the disk is changed or looked at by it, nor the log broken.
func unchanged(t *testing.T, d *disk.Disk, w *wal.Wal, call func(w *wal.Wal) api.Errno, want api.Errno) {
	t.Helper()
	n, l, files := d.Ops(), w.Records(), contents(d)
	// Also no step is attempted that would then fail.
	for _, selecting := range []func(){func() { d.Trip(1) }, func() { d.Stop(1) }} {
		selecting()
		returned(t, call(w), want)
		has(t, w, false, l...)
		counted(t, d, n)
		holds(t, d, files...)
		d.Trip(0)
		d.Stop(0)
	}
}

func TestAppendOfTooLongRecords(t *testing.T) {
	for _, orders := range [][]order{nil, file("head", nil), logFiles(1), logFiles(3, []byte{7}), logFiles(3, series(maxRec, 1), series(maxRec-16, 2))} {
		for _, n := range []int{maxRec + 1, maxRec + 2, 2 * maxRec, maxFile - 8, maxFile, maxFile + 1, 1 << 20} {
			d := made(t, orders)
			w, _ := wal.Open(d)
			unchanged(t, d, w, func(w *wal.Wal) api.Errno { return w.Append(series(n, 1)) }, api.ErrLong)
			l := w.Records()
			if err := w.Append(nil); err != api.OK && err != api.ErrFull {
				t.Errorf("then Append returned the error %d", err)
			} else if err == api.OK {
				has(t, w, false, append(l, nil)...)
			}
		}
	}
	for _, orders := range [][]order{nil, logFiles(1), logFiles(3, []byte{7})} {
		d := made(t, orders)
		w, _ := wal.Open(d)
		l := w.Records()
		r := series(maxRec, 1)
		returned(t, w.Append(r), api.OK)
		has(t, w, false, append(l, r)...)
		opens(t, d, append(l, r)...)
	}
}

func TestAppendUpToTheLongestFile(t *testing.T) {
	for _, before := range [][][]byte{
		list(series(maxRec, 1)),
		list(nil, series(maxRec, 1), []byte{7}),
		list(series(maxRec, 1), series(maxRec-100, 2)),
		slices.Repeat(list(nil), 5000),
	} {
		room := maxFile - len(frames(before...)) - 8
		for _, more := range [][]byte{nil, {9}, fill(room, 9)} {
			// What stands behind the log does not count.
			d := made(t, logFiles(2, before...), []order{write("log.2", len(frames(before...)), more)})
			w := opens(t, d, before...)
			for _, n := range []int{room + 1, room + 2, room + 8, maxRec} {
				unchanged(t, d, w, func(w *wal.Wal) api.Errno { return w.Append(series(n, 4)) }, api.ErrFull)
			}
			// Too long, and the file would be too large.
			unchanged(t, d, w, func(w *wal.Wal) api.Errno { return w.Append(series(maxRec+1, 4)) }, api.ErrLong)
			r := series(room, 5)
			returned(t, w.Append(r), api.OK)
			l := append(slices.Clone(before), r)
			has(t, w, false, l...)
			holds(t, d, held{"head", headOf(2, maxFile)}, held{"log.2", frames(l...)})
			for _, r := range [][]byte{nil, {7}, series(maxRec, 1)} {
				unchanged(t, d, w, func(w *wal.Wal) api.Errno { return w.Append(r) }, api.ErrFull)
			}
			unchanged(t, d, w, func(w *wal.Wal) api.Errno { return w.Append(series(maxRec+1, 4)) }, api.ErrLong)
			// A new generation has room again.
			opens(t, d, l...)
			returned(t, w.Compact([]byte{1}), api.OK)
			returned(t, w.Append([]byte{2}), api.OK)
			opens(t, d, []byte{1}, []byte{2})
		}
	}
}

func TestAppendWhereTheFileIsAsLongAsCanBe(t *testing.T) {
	// But few of its bytes belong to the log.
	d := made(t, logFiles(2, []byte{7}), []order{write("log.2", 9, series(maxFile-9, 1))})
	w := opens(t, d, []byte{7})
	r := series(maxRec, 2)
	returned(t, w.Append(r), api.OK)
	opens(t, d, []byte{7}, r)
}

func TestCompactUpToTheLongestFile(t *testing.T) {
	half := series(maxRec-8, 1)
	long := [][][]byte{
		list(half, half),
		slices.Repeat(list(nil), maxFile/8),
		list(series(maxRec, 2), series(maxRec-16, 3)),
		list([]byte{7}, half, series(maxRec-17, 4)),
	}
	over := [][][]byte{
		list(half, half, nil),
		list(nil, half, half),
		list(half, series(maxRec-7, 1)),
		list(series(maxRec-7, 1), half),
		slices.Repeat(list(nil), maxFile/8+1),
		list(series(maxRec, 2), series(maxRec-15, 3)),
		list(series(maxRec, 2), series(maxRec, 3)),
		list([]byte{7}, half, series(maxRec-16, 4)),
		slices.Repeat(list(series(maxRec, 5)), 5),
		slices.Repeat(list(half), 1000),
	}
	for _, before := range [][][]byte{nil, list([]byte{7}), list(half, half)} {
		orders := logFiles(3, before...)
		if before == nil {
			orders = nil
		}
		for _, l := range over {
			d := made(t, orders)
			w := opens(t, d, before...)
			unchanged(t, d, w, func(w *wal.Wal) api.Errno { return w.Compact(l...) }, api.ErrFull)
			returned(t, w.Compact([]byte{1}), api.OK)
			opens(t, d, []byte{1})
		}
		for _, l := range long {
			d := made(t, orders)
			w := opens(t, d, before...)
			returned(t, w.Compact(l...), api.OK)
			has(t, w, false, l...)
			if h, _ := d.Read("head"); len(h) != 16 || !bytes.Equal(h[4:8], number(maxFile)) {
				t.Errorf("head has %v", h)
			}
			opens(t, d, l...)
			unchanged(t, d, w, func(w *wal.Wal) api.Errno { return w.Append(nil) }, api.ErrFull)
		}
	}
}

func TestCompactOfTooLongRecords(t *testing.T) {
	long, half := series(maxRec+1, 1), series(maxRec-8, 1)
	for _, orders := range [][]order{nil, file("head", nil), logFiles(3, []byte{7})} {
		for _, l := range [][][]byte{
			list(long), list(nil, long), list(long, nil), list([]byte{1}, long, []byte{2}), list(long, long),
			list(series(maxRec, 1), long), list(series(maxFile, 1)),
			// All together are too long as well, be it ahead of the one that is too long itself or behind it.
			list(half, half, long), list(half, half, nil, long), list(long, half, half, half), list(half, long, half, half),
			append(slices.Repeat(list(half), 20), long), append(slices.Repeat(list(nil), maxFile/8+1), long), list(series(1<<20, 1)),
		} {
			d := made(t, orders)
			w, _ := wal.Open(d)
			unchanged(t, d, w, func(w *wal.Wal) api.Errno { return w.Compact(l...) }, api.ErrLong)
			returned(t, w.Compact([]byte{1}), api.OK)
			opens(t, d, []byte{1})
		}
	}
}

// Wl2: errors of the disk that Trip and Stop did not select.

func TestOtherErrorsOfTheDisk(t *testing.T) {
	crowd := func(n int) []order {
		var l []order
		for i := range n {
			l = append(l, create("f"+logName(uint32(i))))
		}
		return l
	}
	gen3 := logFiles(3, []byte{7})
	room := int64(9 + 16)
	for _, c := range []struct {
		room   int64
		orders []order
		later  []order
		call   call
		err    api.Errno
	}{
		// No room for the file, or for the head: that breaks the log, other than a file that would be too large.
		{8, nil, nil, appending([]byte{7}), api.ErrFull},
		{8, nil, nil, compacting([]byte{7}), api.ErrFull},
		{9, nil, nil, appending([]byte{7}), api.ErrFull},
		{room - 1, nil, nil, appending([]byte{7}), api.ErrFull},
		{room, nil, nil, appending([]byte{7}), api.OK},
		{room, gen3, nil, appending(nil), api.ErrFull},
		{room + 7, gen3, nil, appending(nil), api.ErrFull},
		{room + 8, gen3, nil, appending(nil), api.OK},
		{room + 7, gen3, nil, compacting(nil), api.ErrFull},
		{room + 8, gen3, nil, compacting(nil), api.OK},
		{room, gen3, nil, compacting(), api.OK},
		// Too many names, for the file or the head.
		{1000, crowd(100), nil, appending([]byte{7}), api.ErrFull},
		{1000, crowd(99), nil, appending([]byte{7}), api.ErrFull},
		{1000, crowd(98), nil, appending([]byte{7}), api.OK},
		{1000, append(crowd(99), create("head")), nil, compacting([]byte{7}), api.ErrFull},
		{1000, append(crowd(98), create("head")), nil, compacting([]byte{7}), api.OK},
		{1000, append(crowd(98), gen3...), nil, compacting([]byte{7}), api.ErrFull},
		{1000, append(crowd(98), gen3...), nil, appending([]byte{9}), api.OK},
		{1000, append(crowd(97), gen3...), nil, compacting([]byte{7}), api.OK},
		{1000, append(crowd(98), create("log.1"), create("head")), nil, appending([]byte{7}), api.OK},
		// Files that are gone since the log was opened.
		{1000, gen3, []order{remove("log.3")}, appending([]byte{7}), api.ErrNone},
		{1000, gen3, []order{remove("head")}, appending([]byte{7}), api.ErrNone},
		{1000, gen3, []order{remove("log.3"), remove("head")}, compacting([]byte{7}), api.OK},
	} {
		p := newPair(t, c.room, c.orders...)
		p.play(t, opening)
		each(t, p.d, c.later...)
		each(t, p.e, c.later...)
		p.play(t, c.call)
		returned(t, p.err, c.err)
		if p.w.Broken() != (c.err != api.OK) {
			t.Errorf("Broken() = %t after the error %d", p.w.Broken(), c.err)
		}
		p.play(t, appending([]byte{7}), compacting(), opening, crashing(nil, all), opening, compacting(), crashing(nil, 0), opening)
	}
}

func TestADiskThatWentDown(t *testing.T) {
	// Before the call: the first step is attempted, as far as there is one.
	for _, orders := range [][]order{nil, file("head", nil), file("log.1", nil), logFiles(1), logFiles(3, []byte{7}, nil)} {
		for _, c := range []call{appending([]byte{8}), appending(nil), compacting(), compacting([]byte{8}, nil)} {
			p := newPair(t, 1000, append(orders, syncDir)...)
			p.play(t, opening, stopping(1), ordering(syncDirError), c)
			returned(t, p.err, api.ErrDown)
			p.play(t, c, opening, crashing(nil, 0), opening, c)
			returned(t, p.err, api.OK)
		}
	}
	// Errors that are found without the disk come first, and do not break the log.
	p := newPair(t, 1000, logFiles(3, []byte{7})...)
	p.play(t, opening, stopping(1), ordering(syncDirError), appending(fill(maxRec+1, 1)), compacting(nil, fill(maxRec+1, 1)), compacting(fill(maxRec, 1), fill(maxRec, 1)))
	has(t, p.w, false, []byte{7})
	p.play(t, appending(nil), appending(fill(maxRec+1, 1)))
	has(t, p.w, true, []byte{7})
}

// syncDirError is a step that brings a disk down.
func syncDirError(d *disk.Disk) api.Errno { return d.SyncDir() }
