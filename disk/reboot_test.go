package disk_test

import (
	"bytes"
	"math"
	"math/rand/v2"
	"slices"
	"testing"

	"newsreel/api"
	"newsreel/disk"
)

// prepared returns a disk on which much is not synced. The directory has six operations pending. The pieces that are not synced are, by nodes:
// 1 (a): 201 at 0, and 202 and 203 at 19; 2 (b, then d): 5 at 0, and 209 at 1; 3 (c): 204 and 205 at 14, and 206 at 16; 4 (the other b): 208 at 40; 5 (e, then c, then d): 210 at 0.
func prepared(t *testing.T) *disk.Disk {
	t.Helper()
	return made(t, 200, create("a"), create("b"), create("c"), write("a", 0, run(20)...), write("b", 0, 5), sync("a"), syncDir,
		write("a", 0, 201), write("a", 19, 202, 203), sync("c"), write("c", 14, 204, 205, 206), move("b", "d"), create("b"), write("b", 0, 207), sync("b"), write("b", 40, 208),
		write("d", 1, 209), remove("c"), create("e"), move("e", "c"), write("c", 0, 210), move("c", "d"))
}

// ways are ways of rebooting.
func ways() []func(d *disk.Disk) {
	var l []func(d *disk.Disk)
	for ops := -1; ops <= 8; ops++ {
		for _, s := range []string{"", "111111111111", "1010101010", "0101010101", "1", "01", "001", "0001", "00001", "000001", "0000001"} {
			l = append(l, func(d *disk.Disk) { d.Reboot(bits(s), ops) })
		}
	}
	return l
}

// alike fails the test unless two disks have the same names, contents and bytes, now and after each way of rebooting.
func alike(t *testing.T, left, right func() *disk.Disk) {
	t.Helper()
	contents := func(d *disk.Disk) []held {
		var l []held
		for _, name := range d.List() {
			b, _ := d.Read(name)
			l = append(l, held{name, b})
		}
		return l
	}
	if d, e := left(), right(); !d.Down() && !e.Down() {
		holds(t, d, contents(e)...)
	}
	for _, reboot := range ways() {
		d, e := left(), right()
		reboot(d)
		reboot(e)
		holds(t, d, contents(e)...)
	}
}

// TestOperationsThatAreNotPerformed compares disks on which an operation was not performed with others on which it was not attempted.
func TestOperationsThatAreNotPerformed(t *testing.T) {
	without := func() *disk.Disk { return prepared(t) }
	for _, s := range []step{create("x"), create("c"), write("a", 0, 1), write("a", 15, 1, 2), write("a", 50, 1), write("a", 0), write("b", 0, run(40)...), sync("a"), sync("b"), sync("d"), syncDir, move("a", "x"), move("a", "b"), move("d", "c"), remove("a"), remove("d")} {
		alike(t, func() *disk.Disk {
			d := prepared(t)
			d.Trip(1)
			each(t, d, api.ErrIO, s)
			return d
		}, without)
		alike(t, func() *disk.Disk {
			d := prepared(t)
			d.Stop(1)
			each(t, d, api.ErrDown, s, s)
			return d
		}, without)
	}
	// While the disk is down.
	alike(t, func() *disk.Disk {
		d := prepared(t)
		d.Stop(1)
		each(t, d, api.ErrDown, anySteps()...)
		return d
	}, without)
	// With other errors.
	alike(t, func() *disk.Disk {
		d := prepared(t)
		each(t, d, api.ErrThere, create("a"))
		each(t, d, api.ErrArg, create("A"), write("a", -1, 1), move("a", "a"), move("a", ""))
		each(t, d, api.ErrNone, write("x", 0, 1), sync("x"), move("x", "y"), remove("x"), read("x"))
		each(t, d, api.ErrLong, write("a", 65536, 1))
		each(t, d, api.ErrFull, write("a", 200, 1))
		return d
	}, without)
}

// Ds4.

func TestRebootWithoutBits(t *testing.T) {
	a, b := has("a", run(20)...), has("b")
	newB := has("b", 207)
	for _, c := range []struct {
		ops  int
		want []held
	}{
		{math.MinInt, []held{a, b, has("c")}},
		{-1, []held{a, b, has("c")}},
		{0, []held{a, b, has("c")}},
		{1, []held{a, has("c"), has("d")}},
		{2, []held{a, newB, has("c"), has("d")}},
		{3, []held{a, newB, has("d")}},
		{4, []held{a, newB, has("d"), has("e")}},
		{5, []held{a, newB, has("c"), has("d")}},
		{6, []held{a, newB, has("d")}},
		{7, []held{a, newB, has("d")}},
		{all, []held{a, newB, has("d")}},
	} {
		for _, s := range []string{"", "0", "00000000", "000000000000"} {
			d := prepared(t)
			n := d.Ops()
			d.Reboot(bits(s), c.ops)
			holds(t, d, c.want...)
			counted(t, d, n)
		}
	}
}

func TestRebootWithBits(t *testing.T) {
	a := has("a", run(20)...)
	a201 := has("a", join([]byte{201}, run(20)[1:])...)
	a202 := has("a", join(run(19), []byte{202, 203})...)
	aAll := has("a", join([]byte{201}, run(19)[1:], []byte{202, 203})...)
	cAll := has("c", join(fill(14, 0), []byte{204, 205, 206})...)
	newB, newBAll := has("b", 207), has("b", join([]byte{207}, fill(39, 0), []byte{208})...)
	for _, c := range []struct {
		s    string
		ops  int
		want []held
	}{
		// Nodes 1, 2 and 3, with two pieces each.
		{"1", 0, []held{a201, has("b"), has("c")}},
		{"01", 0, []held{a202, has("b"), has("c")}},
		{"11", 0, []held{aAll, has("b"), has("c")}},
		{"001", 0, []held{a, has("b", 5), has("c")}},
		{"0001", 0, []held{a, has("b", 0, 209), has("c")}},
		{"00001", 0, []held{a, has("b"), has("c", join(fill(14, 0), []byte{204, 205})...)}},
		{"000001", 0, []held{a, has("b"), has("c", join(fill(16, 0), []byte{206})...)}},
		{"0000001", 0, []held{a, has("b"), has("c")}}, // one bit too many
		{"111111", 0, []held{aAll, has("b", 5, 209), cAll}},
		{"1111111111", 0, []held{aAll, has("b", 5, 209), cAll}},
		// In the order of nodes, not of names: c has the third one, d the second.
		{"001", 1, []held{a, has("c"), has("d", 5)}},
		{"000011", 1, []held{a, cAll, has("d")}},
		// Nodes 1 to 4: b has the last one.
		{"0000001", 2, []held{a, newBAll, has("c"), has("d")}},
		{"1111110", 2, []held{aAll, newB, cAll, has("d", 5, 209)}},
		// Without node 3, whose pieces use no bits.
		{"00001", 3, []held{a, newBAll, has("d")}},
		{"000011", 3, []held{a, newBAll, has("d")}},
		{"0000011", 3, []held{a, newB, has("d")}},
		// With node 5, under each of its names.
		{"000001", 4, []held{a, newB, has("d"), has("e", 210)}},
		{"000010", 4, []held{a, newBAll, has("d"), has("e")}},
		{"000001", 5, []held{a, newB, has("c", 210), has("d")}},
		{"001101", 5, []held{a, newB, has("c", 210), has("d", 5, 209)}},
		// Without nodes 2 and 3: node 5 has the name of node 2.
		{"0001", 6, []held{a, newB, has("d", 210)}},
		{"0010", 6, []held{a, newBAll, has("d")}},
		{"0000111", 6, []held{a, newB, has("d")}},
		{"0111", 7, []held{a202, newBAll, has("d", 210)}},
		{"1111111111", all, []held{aAll, newBAll, has("d", 210)}},
	} {
		d := prepared(t)
		d.Reboot(bits(c.s), c.ops)
		holds(t, d, c.want...)
		// Where it was down, the same.
		d = prepared(t)
		d.Stop(1)
		each(t, d, api.ErrDown, syncDir)
		n := d.Ops()
		d.Reboot(bits(c.s), c.ops)
		holds(t, d, c.want...)
		counted(t, d, n)
	}
}

func TestRebootOfPiecesOverOneAnother(t *testing.T) {
	steps := []step{create("a"), write("a", 0, run(4)...), sync("a"), syncDir, write("a", 1, 201, 202), write("a", 2, 203, 204), write("a", 0, 205)}
	for _, c := range []struct {
		s    string
		want []byte
	}{
		{"000", []byte{1, 2, 3, 4}},
		{"100", []byte{1, 201, 202, 4}},
		{"010", []byte{1, 2, 203, 204}},
		{"110", []byte{1, 201, 203, 204}},
		{"001", []byte{205, 2, 3, 4}},
		{"101", []byte{205, 201, 202, 4}},
		{"011", []byte{205, 2, 203, 204}},
		{"111", []byte{205, 201, 203, 204}},
	} {
		d := made(t, 100, steps...)
		d.Reboot(bits(c.s), 0)
		holds(t, d, has("a", c.want...))
	}
}

func TestRebootOfAnEmptyDisk(t *testing.T) {
	d := made(t, 10)
	d.Reboot(bits("111"), 5)
	holds(t, d)
	d.Stop(1)
	each(t, d, api.ErrDown, create("a"))
	d.Reboot(bits("111"), 5)
	holds(t, d)
	counted(t, d, 1)
}

func TestRebootIsASync(t *testing.T) {
	d := prepared(t)
	d.Reboot(bits("0111"), 6)
	want := []held{has("a", join(run(19), []byte{202, 203})...), has("b", join([]byte{207}, fill(39, 0), []byte{208})...), has("d", 210)}
	// Nothing is pending any more: another one leaves everything, and uses no bits.
	for _, s := range []string{"", "0000", "11111111"} {
		for _, ops := range []int{0, 1, -1, all} {
			d.Reboot(bits(s), ops)
			holds(t, d, want...)
		}
	}
	each(t, d, api.OK, write("b", 0, 9), remove("a"))
	d.Reboot(bits("1"), 0)
	holds(t, d, want[0], has("b", join([]byte{9}, fill(39, 0), []byte{208})...), want[2])
}

func TestWorkAfterAReboot(t *testing.T) {
	d := prepared(t)
	d.Reboot(nil, 0)
	// A name that was lost, one that came back, and new nodes: empty files behind all others.
	each(t, d, api.OK, create("d"), create("0"))
	each(t, d, api.ErrThere, create("c"))
	each(t, d, api.ErrNone, read("e"))
	holds(t, d, has("0"), has("a", run(20)...), has("b"), has("c"), has("d"))
	each(t, d, api.OK, syncDir, write("d", 0, 1), write("0", 0, 2), write("b", 0, 3), write("a", 0, 4))
	d.Reboot(bits("0111"), 0)
	holds(t, d, has("0", 2), has("a", run(20)...), has("b", 3), has("c"), has("d", 1))
	each(t, d, api.OK, create("1"), syncDir, write("0", 0, 5), write("1", 0, 6), write("d", 0, 7))
	// d was created ahead of 0, and that ahead of 1.
	d.Reboot(bits("100"), 0)
	holds(t, d, has("0", 2), has("1"), has("a", run(20)...), has("b", 3), has("c"), has("d", 7))
}

func TestNodesThatARebootLost(t *testing.T) {
	// The node that was created last is lost; the next one has its own file, behind the others.
	d := made(t, 100, create("b"), syncDir, create("a"), write("a", 0, 1, 2))
	d.Reboot(bits("1"), 0)
	holds(t, d, has("b"))
	each(t, d, api.OK, create("a"))
	holds(t, d, has("a"), has("b"))
	each(t, d, api.OK, syncDir, write("a", 0, 3), write("b", 0, 4))
	d.Reboot(bits("01"), 0)
	holds(t, d, has("a", 3), has("b"))
}

func TestSelectionsAfterAReboot(t *testing.T) {
	for n := 1; n <= 3; n++ {
		d := bare(t)
		d.Trip(n)
		d.Stop(n + 1)
		d.Reboot(nil, 0)
		each(t, d, api.OK, extend(0), extend(1), extend(2), extend(3), extend(4))
		// Likewise where it was down.
		d.Trip(n + 1)
		d.Stop(1)
		each(t, d, api.ErrDown, extend(5))
		d.Stop(n)
		d.Trip(n)
		d.Reboot(slices.Repeat([]bool{true}, 5), 0)
		each(t, d, api.OK, extend(5), extend(6), extend(7))
		holds(t, d, has("a", run(8)...), has("b"))
	}
}

func TestExampleOfTheChapter(t *testing.T) {
	d := made(t, 100, create("a"), write("a", 0, 1, 2), sync("a"))
	d.Reboot(nil, 0)
	holds(t, d)
	d = made(t, 100, create("a"), write("a", 0, 1, 2), sync("a"), syncDir)
	d.Reboot(nil, 0)
	holds(t, d, has("a", 1, 2))
}

// Ds5.

// TestSyncedDataSurvive writes, syncs, and syncs the directory in each order that has an effect, and does other things in between and behind.
func TestSyncedDataSurvive(t *testing.T) {
	dice := rand.New(rand.NewPCG(11, 2))
	for n := range 3000 {
		d := disk.New(1000)
		others := func() {
			for range dice.IntN(10) {
				i := &input{some(dice, 4)}
				o := order{kind: dice.IntN(kinds), name: i.name(), to: i.name(), at: i.offset() % 50, b: fill(dice.IntN(20), 7)}
				o.step()(d)
			}
		}
		want := fill(1+dice.IntN(60), 9)
		steps := [][]step{
			{create("keep"), write("keep", 0, want...), sync("keep"), syncDir},
			{create("keep"), write("keep", 0, want...), syncDir, sync("keep")},
			{create("keep"), syncDir, write("keep", 0, want...), sync("keep")},
			{create("x"), write("x", 0, want...), sync("x"), move("x", "keep"), syncDir},
		}[n%4]
		for _, s := range steps {
			others()
			each(t, d, api.OK, s)
		}
		for range 3 {
			d.Trip(dice.IntN(12))
			d.Stop(dice.IntN(12))
			others()
			var l []bool
			for range dice.IntN(30) {
				l = append(l, dice.IntN(2) == 1)
			}
			d.Reboot(l, dice.IntN(8)-1)
			if b, err := d.Read("keep"); err != api.OK || !bytes.Equal(b, want) {
				t.Fatalf("Read of synced data = %v, %d, want %v", b, err, want)
			}
		}
	}
}

func TestDataThatWereNotSynced(t *testing.T) {
	for _, c := range []struct {
		steps []step
		want  []held
	}{
		{[]step{create("a"), syncDir, write("a", 0, 1)}, []held{has("a")}},          // not synced
		{[]step{create("a"), syncDir, write("a", 0, 1), syncDir}, []held{has("a")}}, // only the directory
		{[]step{create("a"), write("a", 0, 1), sync("a")}, nil},                     // only the file
		{[]step{create("a"), write("a", 0, 1), sync("a"), syncDir, remove("a")}, []held{has("a", 1)}},
		{[]step{create("a"), write("a", 0, 1), sync("a"), syncDir, move("a", "b")}, []held{has("a", 1)}},
		{[]step{create("a"), write("a", 0, 1), sync("a"), syncDir, write("a", 0, 2)}, []held{has("a", 1)}},
	} {
		d := made(t, 100, c.steps...)
		d.Reboot(nil, 0)
		holds(t, d, c.want...)
	}
}

func TestUsedNeverExceedsTheCapacity(t *testing.T) {
	dice := rand.New(rand.NewPCG(11, 3))
	for range 1000 {
		room := dice.Int64N(120)
		d := disk.New(room)
		for range 60 {
			i := &input{some(dice, 4)}
			o := order{kind: dice.IntN(kinds), name: i.name(), to: i.name(), at: i.offset() % 50, b: fill(dice.IntN(40), 7)}
			o.step()(d)
			if n := dice.IntN(20); n == 0 {
				d.Trip(1)
			} else if n == 1 {
				d.Reboot(bits("0101"), all)
			}
			if n := d.Used(); n > room {
				t.Fatalf("Used() = %d of %d", n, room)
			}
		}
	}
}

// TestRoomOfANameThatCameBack: a crash may bring back a name whose room was given to others since; then nothing can be written until there is room again.
func TestRoomOfANameThatCameBack(t *testing.T) {
	for _, s := range []step{remove("a"), move("c", "a")} {
		d := made(t, 100, create("a"), create("b"), create("c"), write("a", 0, run(80)...), sync("a"), syncDir, s, write("b", 0, run(60)...), sync("b"))
		d.Reboot(nil, 0)
		holds(t, d, has("a", run(80)...), has("b", run(60)...), has("c"))
		each(t, d, api.ErrFull, write("a", 0, 1), write("b", 0), write("c", 0, 1), write("b", 60, 1))
		each(t, d, api.OK, sync("a"), create("d"), move("d", "e"), remove("b"), write("c", 19, 1))
		each(t, d, api.ErrFull, write("c", 20, 1))
		if n := d.Used(); n != 100 {
			t.Errorf("Used() = %d", n)
		}
	}
}

// R3.

func TestNoArgumentIsChangedOrKept(t *testing.T) {
	d := made(t, 200, create("a"), create("b"), syncDir)
	// With room behind the bytes, which is not written to either.
	whole := run(60)
	b := whole[:40]
	each(t, d, api.OK, func(d *disk.Disk) api.Errno { return d.Write("a", 10, b) })
	each(t, d, api.OK, write("a", 50, 7, 7), write("a", 0, 8))
	if !bytes.Equal(whole, run(60)) {
		t.Errorf("the bytes were changed to %v", whole)
	}
	want := join([]byte{8}, fill(9, 0), run(40), []byte{7, 7})
	clear(whole)
	holds(t, d, has("a", want...), has("b"))
	l := bits("1111111")
	d.Reboot(l[:6], 0)
	if !slices.Equal(l, bits("1111111")) {
		t.Errorf("the bits were changed to %v", l)
	}
	holds(t, d, has("a", want...), has("b"))
	clear(l)
	holds(t, d, has("a", want...), has("b"))
}

func TestResultsAreNewMemory(t *testing.T) {
	d := made(t, 200, create("a"), create("b"), write("a", 0, run(20)...), sync("a"), syncDir, write("a", 20, run(20)...))
	want := join(run(20), run(20))
	spoil := func() {
		b, _ := d.Read("a")
		clear(b[:cap(b)])
		l := d.List()
		for i := range l {
			l[i] = "spoilt"
		}
		_ = append(l, "spoilt")
		_ = append(b, 1, 2, 3)
	}
	spoil()
	holds(t, d, has("a", want...), has("b"))
	d.Reboot(bits("11"), 0)
	holds(t, d, has("a", want...), has("b"))
	spoil()
	holds(t, d, has("a", want...), has("b"))
	spoil()
	d.Reboot(nil, 0)
	holds(t, d, has("a", want...), has("b"))
	// What Read returned stays as it was.
	b, _ := d.Read("a")
	l := d.List()
	each(t, d, api.OK, write("a", 0, fill(40, 250)...), sync("a"), move("a", "c"), remove("b"), syncDir)
	if !bytes.Equal(b, want) || !slices.Equal(l, []string{"a", "b"}) {
		t.Errorf("earlier results became %v, %q", b, l)
	}
}

// TestDisksShareNothing: what is done to one disk does not concern another one.
func TestDisksShareNothing(t *testing.T) {
	d, e := made(t, 100, create("a"), write("a", 0, 1)), made(t, 50, create("b"))
	d.Trip(1)
	e.Stop(1)
	each(t, e, api.ErrDown, write("b", 0, 2))
	each(t, d, api.ErrIO, write("a", 0, 2))
	holds(t, d, has("a", 1))
	isDown(t, e)
	counted(t, d, 3)
	counted(t, e, 2)
}
