package wal_test

import (
	"bytes"
	"slices"
	"testing"

	"newsreel/api"
	"newsreel/disk"
	"newsreel/wal"
)

// Wl1: disks without a log.

func TestOpenOfInvalidDisks(t *testing.T) {
	refuses(t, nil, api.ErrState)
	refuses(t, disk.New(-1), api.ErrState)
	refuses(t, &disk.Disk{}, api.ErrState)
	refuses(t, new(disk.Disk), api.ErrState)
}

func TestOpenOfADiskThatIsDown(t *testing.T) {
	for _, orders := range [][]order{nil, file("head", nil), file("head", []byte{1}), logFiles(1, []byte{7}), {create("log.1")}} {
		d := made(t, orders)
		d.Stop(1)
		if err := d.SyncDir(); err != api.ErrDown || !d.Down() {
			t.Fatal("the disk is not down")
		}
		n := d.Ops()
		refuses(t, d, api.ErrDown)
		refuses(t, d, api.ErrDown)
		// It is not even attempted to sync anything.
		counted(t, d, n)
	}
	d := made(t, logFiles(1, []byte{7}))
	d.Stop(1)
	_ = d.SyncDir()
	refuses(t, d, api.ErrDown)
	d.Reboot(nil, 0)
	opens(t, d, []byte{7})
}

func TestOpenWithoutAHead(t *testing.T) {
	others := slices.Concat(file("a", []byte{1}), file("log.1", frames([]byte{7})), file("log.2", nil), file("log.x", []byte{2}), file("headx", headOf(1, 9)), file("hea", headOf(1, 9)))
	for _, orders := range [][]order{
		nil,
		others,
		file("log.1", frames([]byte{7})),
		// An empty head is like none.
		file("head", nil),
		{create("head")},
		slices.Concat(others, file("head", nil)),
		slices.Concat(logFiles(1, []byte{7}), []order{remove("head")}),
		slices.Concat(logFiles(1, []byte{7}), []order{remove("head"), create("head")}),
	} {
		d := made(t, orders)
		n, want := d.Ops(), contents(d)
		// Nothing is done to the disk, so that nothing of it fails.
		d.Trip(1)
		opens(t, d)
		counted(t, d, n)
		holds(t, d, want...)
		d.Trip(0)
		d.Stop(1)
		w := opens(t, d)
		counted(t, d, n)
		holds(t, d, want...)
		// It is of generation 0.
		d.Stop(0)
		returned(t, w.Append([]byte{8}), api.OK)
		h, _ := d.Read("head")
		if !bytes.Equal(h, headOf(1, 9)) {
			t.Errorf("head has %v", h)
		}
		opens(t, d, []byte{8})
	}
}

// Wl1: logs.

func TestOpen(t *testing.T) {
	lists := [][][]byte{
		nil,
		list(nil),
		list([]byte{7}),
		list([]byte{7}, []byte{8, 9}),
		list(nil, nil, nil),
		list(series(100, 1), nil, series(1, 2), series(1000, 3)),
		list(frames([]byte{1}, nil)),
		list(series(maxRec, 1)),
		list(series(maxRec, 1), series(maxRec-16, 2)),
		slices.Repeat(list(nil), maxFile/8),
	}
	for _, gen := range []uint32{1, 2, 3, 9, 10, 11, 99, 100, 255, 256, 257, 65535, 65536, 1 << 24, 1<<31 - 1, 1 << 31, 1<<32 - 1} {
		for i, l := range lists {
			if i > 3 && gen > 2 {
				continue
			}
			d := made(t, logFiles(gen, l...))
			n, want := d.Ops(), contents(d)
			opens(t, d, l...)
			holds(t, d, want...)
			// The directory, the head and the file were synced.
			counted(t, d, n+3)
			opens(t, d, l...)
			d.Reboot(nil, 0)
			opens(t, d, l...)
		}
	}
}

func TestOpenWithMoreBytesBehindTheLog(t *testing.T) {
	l := list([]byte{7}, series(20, 1))
	b := frames(l...)
	for _, more := range [][]byte{{0}, {1}, fill(7, 0), fill(8, 0), fill(100, 0), frames([]byte{9}), frames([]byte{9})[:8], frames(series(40, 4))[:30], series(60, 5), fill(maxFile-len(b), 255)} {
		d := made(t, file("log.4", join(b, more)), file("head", headOf(4, uint32(len(b)))))
		want := contents(d)
		w := opens(t, d, l...)
		holds(t, d, want...)
		// They do not belong to the log: the next record is written over them.
		returned(t, w.Append([]byte{3}), api.OK)
		c := join(frames([]byte{3}), more[min(9, len(more)):])
		holds(t, d, held{"head", headOf(4, uint32(len(b)+9))}, held{"log.4", join(b, c)})
		opens(t, d, append(l, []byte{3})...)
	}
}

func TestOpenWithLessThanAllRecords(t *testing.T) {
	b := frames([]byte{7}, []byte{8, 9}, nil, series(30, 1))
	for _, c := range []struct {
		size uint32
		want [][]byte
	}{
		{0, nil},
		{9, list([]byte{7})},
		{19, list([]byte{7}, []byte{8, 9})},
		{27, list([]byte{7}, []byte{8, 9}, nil)},
		{65, list([]byte{7}, []byte{8, 9}, nil, series(30, 1))},
	} {
		opens(t, made(t, file("log.1", b), file("head", headOf(1, c.size))), c.want...)
	}
	// All other numbers of bytes leave a remainder, or are too many.
	for size := range uint32(70) {
		if !slices.Contains([]uint32{0, 9, 19, 27, 65}, size) {
			refuses(t, made(t, file("log.1", b), file("head", headOf(1, size))), api.ErrSum)
		}
	}
}

// Wl1: damaged logs.

// damaged fails the test unless Open of a disk with this head, and these other files, returns this error after this many operations, and leaves all files.
func damaged(t *testing.T, head []byte, others []order, want api.Errno, ops int) {
	t.Helper()
	d := made(t, others, file("head", head))
	n, files := d.Ops(), contents(d)
	refuses(t, d, want)
	counted(t, d, n+ops)
	holds(t, d, files...)
}

// flip returns b with the bit changed that has this number, from the topmost bit of the first byte on.
func flip(b []byte, bit int) []byte {
	changed := bytes.Clone(b)
	changed[bit/8] ^= 128 >> (bit % 8)
	return changed
}

// invalidHeads are contents of head that are not a valid head, not even of generation 1 with nine bytes.
func invalidHeads() [][]byte {
	right := headOf(1, 9)
	l := [][]byte{
		fill(16, 0), fill(16, 255), fill(1, 0), fill(17, 0), fill(32, 0), series(16, 1), fill(maxFile, 0),
		join(right, []byte{0}), join(right, []byte{1}), join(right, fill(16, 0)), join(right, right), join(right[:12], fill(5, 0)),
		join([]byte{0}, right), join([]byte{0}, right[:15]), right[1:], right[4:],
		// The right checksum, but of other bytes, in another order, or not complemented.
		join(right[:8], headOf(1, 10)[8:]), join(right[:8], headOf(2, 9)[8:]),
		join(right[:8], []byte{right[11], right[10], right[9], right[8]}, fill(4, 0)),
		join(right[:8], []byte{^right[8], ^right[9], ^right[10], ^right[11]}, fill(4, 0)),
		join(right[:8], frames(right[:4])[4:8], fill(4, 0)), join(right[:8], frames(fill(8, 0))[4:8], fill(4, 0)),
		join([]byte{1, 0, 0, 0, 9, 0, 0, 0}, right[8:]), join([]byte{0, 0, 0, 9, 0, 0, 0, 1}, right[8:]),
		// No generation has the number 0.
		headOf(0, 0), headOf(0, 9), headOf(0, 1<<31),
	}
	for n := 1; n < 16; n++ {
		l = append(l, right[:n])
	}
	for bit := range 128 {
		l = append(l, flip(right, bit))
	}
	for i := 12; i < 16; i++ {
		b := bytes.Clone(right)
		b[i] = 1
		l = append(l, b)
	}
	return l
}

func TestOpenWithAnInvalidHead(t *testing.T) {
	files := slices.Concat(file("log.0", frames([]byte{7})), file("log.1", frames([]byte{7})), file("log.2", frames([]byte{7})))
	for _, head := range invalidHeads() {
		// The directory and the head were synced.
		damaged(t, head, files, api.ErrSum, 2)
		damaged(t, head, nil, api.ErrSum, 2)
	}
	opens(t, made(t, files, file("head", headOf(1, 9))), []byte{7})
}

func TestOpenWithoutTheFile(t *testing.T) {
	for _, gen := range []uint32{1, 2, 10, 1<<32 - 1} {
		for _, size := range []uint32{0, 9, maxFile, maxFile + 1, 1<<32 - 1} {
			damaged(t, headOf(gen, size), nil, api.ErrNone, 2)
			damaged(t, headOf(gen, size), file("log.3", frames([]byte{7})), api.ErrNone, 2)
			damaged(t, headOf(gen, size), slices.Concat(file("log.", nil), file("log.x", nil), file("log.01", nil), file("log", nil), file("log1", nil), file("log.0", nil)), api.ErrNone, 2)
		}
	}
}

func TestOpenWithFewerBytesThanTheHeadSays(t *testing.T) {
	b := frames([]byte{7}, series(20, 1))
	for _, size := range []uint32{38, 39, 100, maxFile, maxFile + 1, 1 << 31, 1<<31 + 37, 1<<32 - 1} {
		damaged(t, headOf(2, size), file("log.2", b), api.ErrSum, 3)
	}
	for n := range len(b) {
		damaged(t, headOf(2, 37), file("log.2", b[:n]), api.ErrSum, 3)
		// Also where the other files have as many.
		damaged(t, headOf(2, 37), slices.Concat(file("log.2", b[:n]), file("log.1", b), file("log.3", b)), api.ErrSum, 3)
	}
	damaged(t, headOf(2, 1), file("log.2", nil), api.ErrSum, 3)
}

func TestOpenWithBytesThatAreNoFrames(t *testing.T) {
	b := frames([]byte{7}, series(20, 1))
	for bit := range 8 * len(b) {
		damaged(t, headOf(1, 37), file("log.1", flip(b, bit)), api.ErrSum, 3)
	}
	for _, c := range [][]byte{
		fill(1, 0), fill(7, 0), fill(9, 0), fill(12, 0), fill(20, 255),
		join(b, fill(1, 0)), join(b, fill(7, 0)), join(b, frames([]byte{9})[:8]), join(b, fill(8, 1)), join(fill(1, 0), b), b[1:], b[9 : len(b)-1],
		frames(fill(maxRec+1, 1)), join(frames(nil), frames(fill(maxRec+1, 1))), join(frames(fill(maxRec, 1)), []byte{0}),
	} {
		damaged(t, headOf(1, uint32(len(c))), file("log.1", c), api.ErrSum, 3)
		// Files of other generations are left, too.
		damaged(t, headOf(1, uint32(len(c))), slices.Concat(file("log.1", c), file("log.2", b), file("log.9", nil)), api.ErrSum, 3)
	}
	// Zeros are frames of no bytes.
	opens(t, made(t, file("log.1", fill(16, 0)), file("head", headOf(1, 16))), nil, nil)
}

// Wl1: the files of other generations.

func TestOpenRemovesOtherGenerations(t *testing.T) {
	for _, c := range []struct {
		gen    uint32
		others []string
	}{
		{1, []string{"log.2"}},
		{2, []string{"log.1"}},
		{2, []string{"log.1", "log.10", "log.20", "log.21", "log.22", "log.3"}},
		{10, []string{"log.1", "log.11", "log.100", "log.2", "log.9", "log.99"}},
		{7, []string{"log.4294967295", "log.2147483648", "log.65536", "log.999999999"}},
		{1<<32 - 1, []string{"log.1", "log.4294967294"}},
	} {
		var orders []order
		for i, name := range c.others {
			orders = append(orders, file(name, series(i, i))...)
		}
		d := made(t, orders, logFiles(c.gen, []byte{7}))
		n := d.Ops()
		opens(t, d, []byte{7})
		holds(t, d, held{"head", headOf(c.gen, 9)}, held{logName(c.gen), frames([]byte{7})})
		counted(t, d, n+3+len(c.others))
		// The directory is not synced again: a crash may bring them back, and they are removed anew.
		d.Reboot(nil, 0)
		if len(d.List()) != 2+len(c.others) {
			t.Errorf("the disk has %q", d.List())
		}
		opens(t, d, []byte{7})
		holds(t, d, held{"head", headOf(c.gen, 9)}, held{logName(c.gen), frames([]byte{7})})
	}
}

func TestOpenRemovesInTheOrderOfList(t *testing.T) {
	names := []string{"log.1", "log.10", "log.2", "log.22", "log.3", "log.33", "log.4"}
	prepared := func() *disk.Disk {
		var orders []order
		for _, i := range []int{3, 0, 6, 1, 5, 2, 4} {
			orders = append(orders, file(names[i], nil)...)
		}
		return made(t, orders, logFiles(21, []byte{7}))
	}
	for i := range names {
		want := slices.Concat([]string{"head"}, names[i:], []string{"log.21"})
		slices.Sort(want)
		d := prepared()
		d.Trip(4 + i)
		refuses(t, d, api.ErrIO)
		if l := d.List(); !slices.Equal(l, want) {
			t.Errorf("the disk has %q, want %q", l, want)
		}
		opens(t, d, []byte{7})
		d = prepared()
		d.Stop(4 + i)
		refuses(t, d, api.ErrDown)
		d.Reboot(nil, all)
		if l := d.List(); !slices.Equal(l, want) {
			t.Errorf("the disk has %q, want %q", l, want)
		}
		opens(t, d, []byte{7})
	}
}

func TestOpenLeavesOtherFiles(t *testing.T) {
	var orders []order
	names := []string{
		"log", "log.", "logs", "log1", "log.x", "log.1x", "log.x1", "log.1.", "log..1", "log.1.1", "log.0", "log.00", "log.01", "log.001", "log.07",
		"alog.1", "1", "xlog.2", "lo", "log.2.old", "blog.3", "head.1", "head1", "hea", "a", "p1.1", "j1.1", "m1", ".", "log.a", "log.1a2",
	}
	for i, name := range names {
		orders = append(orders, file(name, series(i, i))...)
	}
	d := made(t, orders, logFiles(7, []byte{7}))
	n, want := d.Ops(), contents(d)
	opens(t, d, []byte{7})
	holds(t, d, want...)
	counted(t, d, n+3)
}

// Wl1: the steps.

// unsynced are the orders that give a disk a log of which nothing is synced, and that do not end where the head is.
func unsynced() []order {
	return []order{
		create("log.2"), create("log.1"), create("head"), create("log.3"), create("a"),
		write("log.1", 0, series(30, 1)), write("log.2", 0, frames([]byte{7}, series(20, 1))), write("head", 0, headOf(2, 37)), write("log.3", 0, series(3, 1)),
	}
}

func TestStepsOfOpen(t *testing.T) {
	opening := func(d *disk.Disk, _ *wal.Wal) api.Errno {
		_, err := wal.Open(d)
		return err
	}
	steps := []order{syncDir, sync("head"), sync("log.2"), remove("log.1"), remove("log.3")}
	stepwise(t, unopened(t, unsynced()...), opening, steps...)
	// Nothing is left to be removed.
	stepwise(t, unopened(t, append(unsynced(), remove("log.1"), remove("log.3"))...), opening, steps[:3]...)
}

// unopened returns what makes a disk on which these orders were performed.
func unopened(t *testing.T, orders ...order) func() (*disk.Disk, *wal.Wal) {
	return func() (*disk.Disk, *wal.Wal) { return made(t, orders), nil }
}

func TestErrorsOfOpenStepByStep(t *testing.T) {
	// Each step fails on a disk where all later ones would fail as well.
	for _, head := range [][]byte{headOf(1, 9), headOf(2, 10), headOf(2, 9), {1}} {
		for _, orders := range [][]order{nil, file("log.2", frames([]byte{7})), file("log.2", fill(9, 1)), file("log.2", fill(10, 1)), file("log.3", nil)} {
			for n := range 6 {
				for _, selecting := range []func(n int) call{tripping, stopping} {
					p := newPair(t, 1000, slices.Concat(orders, file("head", head))...)
					p.play(t, selecting(n), opening, opening, crashing(nil, 0), opening, crashing(nil, all), opening)
				}
			}
		}
	}
}
