package wal_test

import (
	"math/rand/v2"
	"slices"
	"testing"

	"newsreel/api"
	"newsreel/disk"
	"newsreel/wal"
)

// Wl4. A deed is an Append or a Compact, with the records that a log has after it if it had others before.
type deed struct {
	call  func(w *wal.Wal) api.Errno
	after func(l [][]byte) [][]byte
}

func appends(b []byte) deed {
	return deed{
		func(w *wal.Wal) api.Errno { return w.Append(b) },
		func(l [][]byte) [][]byte { return append(slices.Clone(l), b) },
	}
}

func compacts(m ...[]byte) deed {
	return deed{
		func(w *wal.Wal) api.Errno { return w.Compact(m...) },
		func([][]byte) [][]byte { return m },
	}
}

// histories are deeds that were acknowledged before another one is interrupted.
func histories() [][]deed {
	return [][]deed{
		nil,
		{appends([]byte{7})},
		{compacts()},
		{appends(series(5, 1)), appends(series(9, 2)), appends(nil)},
		{appends([]byte{7}), compacts()},
		{compacts(series(30, 3), []byte{1}), compacts([]byte{2}), appends(series(14, 4))},
	}
}

// lastDeeds are deeds that are interrupted.
func lastDeeds() []deed {
	return []deed{appends([]byte{9}), appends(nil), appends(series(30, 5)), compacts(), compacts([]byte{8}), compacts(series(7, 6), nil, series(11, 7))}
}

// after returns a new disk, with its log, on which deeds were done, and the records that were acknowledged.
func after(t *testing.T, history []deed) (*disk.Disk, *wal.Wal, [][]byte) {
	t.Helper()
	d := disk.New(1 << 20)
	w := opens(t, d)
	var l [][]byte
	for _, h := range history {
		returned(t, h.call(w), api.OK)
		l = h.after(l)
	}
	return d, w, l
}

// oneOf fails the test unless the log that is opened has one of these lists of records; it returns the log and the list.
func oneOf(t *testing.T, d *disk.Disk, lists ...[][]byte) (*wal.Wal, [][]byte) {
	t.Helper()
	w, err := wal.Open(d)
	if err != api.OK {
		t.Fatalf("Open returned the error %d", err)
	}
	l := w.Records()
	if !slices.ContainsFunc(lists, func(m [][]byte) bool { return same(l, m) }) {
		t.Fatalf("the log has %s, which it had neither before nor after", brief(l))
	}
	return w, l
}

// survives fails the test unless the log that is opened has one of these lists of records, keeps it when the disk crashes again, and takes other records then.
func survives(t *testing.T, d *disk.Disk, lists ...[][]byte) {
	t.Helper()
	_, l := oneOf(t, d, lists...)
	d.Reboot(nil, 0)
	w := opens(t, d, l...)
	returned(t, w.Append(series(21, 8)), api.OK)
	l = append(l, series(21, 8))
	d.Reboot(nil, 0)
	w = opens(t, d, l...)
	returned(t, w.Compact([]byte{3}), api.OK)
	d.Reboot(nil, 0)
	opens(t, d, []byte{3})
}

// outcomes are crashes with each combination of some bits and numbers of operations.
func outcomes(bits, ops int) []crash {
	var l []crash
	for i := range 1 << bits {
		var b []bool
		for j := range bits {
			b = append(b, i>>j&1 == 1)
		}
		for n := range ops + 1 {
			l = append(l, crash{b, n})
		}
	}
	return append(l, crash{slices.Repeat([]bool{true}, 1000), all}, crash{nil, -1})
}

// interruptions interrupts a deed after each number of operations, in both ways, and calls check for each; it stops where the deed is not reached by the interruption any more.
func interruptions(t *testing.T, history []deed, last deed, check func(d *disk.Disk, before, now [][]byte, ops int, down bool)) {
	t.Helper()
	for n := 1; ; n++ {
		for _, down := range []bool{false, true} {
			d, w, before := after(t, history)
			if down {
				d.Stop(n)
			} else {
				d.Trip(n)
			}
			ops := d.Ops()
			err := last.call(w)
			reached := d.Ops()-ops >= n
			if reached != (err != api.OK) {
				t.Fatalf("interrupted at the operation %d: %t; returned the error %d", n, reached, err)
			}
			now := last.after(before)
			if err == api.OK {
				// The interruption lies behind it, so that all of it survives.
				before = now
				d.Trip(0)
				d.Stop(0)
			}
			check(d, before, now, n, down && err != api.OK)
			if err == api.OK && down {
				return
			}
		}
	}
}

func TestInterruptedDeeds(t *testing.T) {
	for _, history := range histories() {
		for _, last := range lastDeeds() {
			for _, c := range outcomes(4, 4) {
				interruptions(t, history, last, func(d *disk.Disk, before, now [][]byte, _ int, _ bool) {
					d.Reboot(c.bits, c.ops)
					survives(t, d, before, now)
				})
			}
			// By an error of the disk only, without a crash.
			interruptions(t, history, last, func(d *disk.Disk, before, now [][]byte, _ int, down bool) {
				if !down {
					survives(t, d, before, now)
				}
			})
		}
	}
}

func TestDeedsThatAreInterruptedTwice(t *testing.T) {
	// The second one interrupts the Open that follows, or the next deed.
	l := histories()
	for _, history := range [][]deed{l[0], l[1], l[5]} {
		for _, last := range []deed{appends(series(12, 5)), compacts(series(7, 6), nil)} {
			for _, next := range []deed{appends(series(3, 7)), compacts()} {
				for _, c := range outcomes(3, 2) {
					interruptedAgain(t, history, last, next, c)
				}
			}
		}
	}
}

// interruptedAgain interrupts one deed and then, after each crash and without one, what follows it.
func interruptedAgain(t *testing.T, history []deed, last, next deed, c crash) {
	t.Helper()
	for n := 1; n < 14; n++ {
		for _, stops := range []bool{false, true} {
			interruptions(t, history, last, func(d *disk.Disk, before, now [][]byte, _ int, down bool) {
				// An error alone needs no crash.
				if down {
					d.Reboot(c.bits, c.ops)
				}
				if stops {
					d.Stop(n)
				} else {
					d.Trip(n)
				}
				lists := [][][]byte{before, now}
				w, err := wal.Open(d)
				if err == api.OK {
					lists = [][][]byte{w.Records()}
					if next.call(w) == api.OK {
						lists[0] = next.after(lists[0])
					} else {
						lists = append(lists, next.after(lists[0]))
					}
				}
				if d.Down() {
					d.Reboot(c.bits, c.ops)
				}
				d.Trip(0)
				d.Stop(0)
				oneOf(t, d, lists...)
			})
		}
	}
}

func TestALogOfLongRecordsSurvives(t *testing.T) {
	r := rand.New(rand.NewPCG(1, 2))
	history := []deed{appends(series(20000, 1)), appends(series(10000, 2))}
	for _, last := range []deed{appends(series(30000, 3)), appends(series(maxRec, 4)), compacts(series(maxRec, 5), series(maxRec-16, 6)), compacts(slices.Repeat(list(series(8, 7)), 4096)...)} {
		for range 5 {
			interruptions(t, history, last, func(d *disk.Disk, before, now [][]byte, _ int, _ bool) {
				bits := make([]bool, 5000)
				for i := range bits {
					bits[i] = r.IntN(2) == 1
				}
				d.Reboot(bits, r.IntN(5))
				_, l := oneOf(t, d, before, now)
				d.Reboot(nil, 0)
				opens(t, d, l...)
			})
		}
	}
}

// Wl4, and that both logs are alike, in many steps.

// source is bytes that say what is done.
type source struct{ b []byte }

// next returns a number less than n, from the next byte; 0 behind the end.
func (s *source) next(n int) int {
	if len(s.b) == 0 {
		return 0
	}
	x := int(s.b[0])
	s.b = s.b[1:]
	return x % n
}

// record returns a record of one of several lengths; some of them are too long.
func (s *source) record() []byte {
	lengths := []int{0, 1, 2, 3, 5, 7, 8, 9, 15, 16, 17, 24, 40, 100, 20000, maxRec, maxRec + 1}
	return series(lengths[s.next(len(lengths))], s.next(256))
}

// records returns few records.
func (s *source) records() [][]byte {
	var l [][]byte
	for range s.next(4) {
		l = append(l, s.record())
	}
	return l
}

// crash returns a way of crashing.
func (s *source) crash() crash {
	n := s.next(20)
	var bits []bool
	for range n {
		bits = append(bits, s.next(2) == 1)
	}
	// At times all that was written, however much it was.
	if n == 19 {
		bits = slices.Repeat(bits, 300)
	}
	return crash{bits, s.next(6) - 1}
}

// walk does what the bytes say to a pair of logs, and fails the test if a log is opened that has other records than those that were acknowledged, or would have been.
func walk(t *testing.T, b []byte) {
	s := &source{b}
	p := newPair(t, []int64{60, 150, 1000, 70000, 1 << 30, 1 << 30}[s.next(6)])
	lists := [][][]byte{nil}
	p.play(t, opening)
	for len(s.b) > 0 {
		switch s.next(8) {
		case 0, 1:
			r := s.record()
			now := append(p.v.before(), r)
			p.play(t, appending(r))
			lists = p.known(lists, now)
		case 2:
			l := s.records()
			p.play(t, compacting(l...))
			lists = p.known(lists, l)
		case 3:
			p.play(t, tripping(s.next(12)))
		case 4:
			p.play(t, stopping(s.next(12)))
		case 5, 6:
			if p.d.Down() || s.next(3) == 0 {
				c := s.crash()
				p.play(t, crashing(c.bits, c.ops))
			}
			fallthrough
		case 7:
			p.play(t, opening)
			lists = p.found(t, lists)
		}
	}
}

// before returns the records that the second log has.
func (v *twin) before() [][]byte {
	if v == nil {
		return nil
	}
	return slices.Clone(v.records)
}

// known returns the lists of records that a log may have from now on, if the last call was to leave it with these, and it could have had some others until now.
func (p *pair) known(lists [][][]byte, now [][]byte) [][][]byte {
	switch {
	case p.err == api.OK:
		return [][][]byte{now}
	case p.v != nil && p.v.broken && p.err != api.ErrState:
		return append(lists, now)
	}
	return lists
}

// found fails the test unless the log could be opened with one of these lists, if it could be opened, and returns the lists that it may have from now on.
func (p *pair) found(t *testing.T, lists [][][]byte) [][][]byte {
	t.Helper()
	if p.err == api.ErrIO || p.err == api.ErrDown {
		return lists
	}
	if p.err != api.OK {
		t.Fatalf("Open returned the error %d", p.err)
	}
	l := p.w.Records()
	if !slices.ContainsFunc(lists, func(m [][]byte) bool { return same(l, m) }) {
		t.Fatalf("the log has %s, which it had neither before nor after", brief(l))
	}
	return [][][]byte{l}
}

func TestWalks(t *testing.T) {
	r := rand.New(rand.NewPCG(3, 4))
	for range 1000 {
		b := make([]byte, r.IntN(120))
		for i := range b {
			b[i] = byte(r.IntN(256))
		}
		walk(t, b)
	}
}

func FuzzWal(f *testing.F) {
	f.Add([]byte{})
	// An Append that goes down at its head, a crash that keeps some of it, and a Compact.
	f.Add([]byte{4, 0, 1, 7, 4, 3, 0, 2, 8, 5, 4, 1, 0, 1, 1, 3, 2, 2, 1, 1, 3, 3, 7})
	f.Add([]byte{4, 2, 3, 1, 2, 3, 4, 5, 6, 3, 5, 0, 9, 9, 7, 0, 1, 1, 6, 0, 19, 1, 0, 1, 5, 0, 4, 4})
	f.Add([]byte{0, 0, 12, 1, 0, 12, 2, 0, 3, 1, 7, 2, 2, 8, 8, 3, 3, 7, 5, 0, 2, 1, 1, 3})
	f.Fuzz(walk)
}
