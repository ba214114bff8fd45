package disk_test

import (
	"bytes"
	"math"
	"slices"
	"testing"

	"newsreel/api"
	"newsreel/disk"
)

// longest is a name of 24 bytes.
const longest = "abcdefghijklmnopqrstu0.9"

// all is a number of operations on a directory that is never reached.
const all = math.MaxInt

// run returns n bytes, none of them 0, that differ from those beside them and from those 16 places away.
func run(n int) []byte {
	b := make([]byte, n)
	for i := range b {
		b[i] = byte(i%199 + 1)
	}
	return b
}

// fill returns n bytes that are all x.
func fill(n int, x byte) []byte { return bytes.Repeat([]byte{x}, n) }

// join returns the bytes of all parts, in new memory.
func join(parts ...[]byte) []byte { return slices.Concat(parts...) }

// bits returns a list of bits, from a text of the digits 0 and 1.
func bits(s string) []bool {
	var l []bool
	for _, r := range s {
		l = append(l, r == '1')
	}
	return l
}

// step is one call of a method of a disk that returns an error.
type step func(d *disk.Disk) api.Errno

func create(name string) step { return func(d *disk.Disk) api.Errno { return d.Create(name) } }

func write(name string, at int, b ...byte) step {
	return func(d *disk.Disk) api.Errno { return d.Write(name, at, b) }
}

func read(name string) step {
	return func(d *disk.Disk) api.Errno {
		_, err := d.Read(name)
		return err
	}
}

func sync(name string) step { return func(d *disk.Disk) api.Errno { return d.Sync(name) } }

func syncDir(d *disk.Disk) api.Errno { return d.SyncDir() }

func move(name, to string) step { return func(d *disk.Disk) api.Errno { return d.Move(name, to) } }

func remove(name string) step { return func(d *disk.Disk) api.Errno { return d.Remove(name) } }

// each fails the test unless each of the steps returns this error.
func each(t *testing.T, d *disk.Disk, want api.Errno, steps ...step) {
	t.Helper()
	for i, s := range steps {
		if err := s(d); err != want {
			t.Errorf("step %d of %d returned the error %d, want %d", i+1, len(steps), err, want)
		}
	}
}

// made returns a disk with this capacity, on which the steps were performed.
func made(t *testing.T, room int64, steps ...step) *disk.Disk {
	t.Helper()
	d := disk.New(room)
	if d == nil {
		t.Fatalf("New(%d) returned no disk", room)
	}
	each(t, d, api.OK, steps...)
	return d
}

// held is a name and the contents of its file.
type held struct {
	name string
	b    []byte
}

// has returns a name and the contents of its file.
func has(name string, b ...byte) held { return held{name, b} }

// brief returns what is shown of contents in messages.
func brief(b []byte) []byte { return b[:min(len(b), 40)] }

// holds fails the test unless the disk is not down and has these names, in this order, and these contents.
func holds(t *testing.T, d *disk.Disk, want ...held) {
	t.Helper()
	if d.Down() {
		t.Error("the disk is down")
	}
	var names []string
	used := 0
	for _, h := range want {
		names = append(names, h.name)
		used += len(h.b)
		b, err := d.Read(h.name)
		if err != api.OK || !bytes.Equal(b, h.b) {
			t.Errorf("Read(%q) = %d bytes %v, %d, want %d bytes %v", h.name, len(b), brief(b), err, len(h.b), brief(h.b))
		}
	}
	if l := d.List(); !slices.Equal(l, names) {
		t.Errorf("List() = %q, want %q", l, names)
	}
	if n := d.Used(); n != int64(used) {
		t.Errorf("Used() = %d, want %d", n, used)
	}
}

// counted fails the test unless Ops returns this number.
func counted(t *testing.T, d *disk.Disk, want int) {
	t.Helper()
	if n := d.Ops(); n != want {
		t.Errorf("Ops() = %d, want %d", n, want)
	}
}

// isDown fails the test unless the disk is down.
func isDown(t *testing.T, d *disk.Disk) {
	t.Helper()
	if !d.Down() {
		t.Error("the disk is not down")
	}
}

// anySteps are calls of all methods that return an error, with and without errors of other kinds, on a disk that has the names a and b.
func anySteps() []step {
	return []step{
		create("x"), create("a"), create(""), create("A"), create(longest + "x"),
		write("a", 0, 1), write("a", 0), write("a", -1, 1), write("a", 65536, 1), write("a", 0, fill(5000, 1)...), write("x", 0, 1), write("", -1),
		sync("a"), sync("x"), sync(""),
		syncDir,
		move("a", "x"), move("a", "b"), move("a", "a"), move("a", ""), move("x", "a"), move("", ""),
		remove("a"), remove("x"), remove(""),
	}
}

// readSteps are calls of Read, likewise.
func readSteps() []step { return []step{read("a"), read("b"), read("x"), read("")} }

// Ds1.

func TestNew(t *testing.T) {
	for _, room := range []int64{0, 1, 15, 16, 100, 65536, 1<<40 - 1, 1 << 40} {
		d := disk.New(room)
		if d == nil {
			t.Errorf("New(%d) returned no disk", room)
			continue
		}
		holds(t, d)
		counted(t, d, 0)
	}
	for _, room := range []int64{-1, -2, -1 << 40, 1<<40 + 1, 1 << 41, math.MaxInt64, math.MinInt64} {
		if d := disk.New(room); d != nil {
			t.Errorf("New(%d) returned a disk", room)
		}
	}
}

func TestCapacity(t *testing.T) {
	for _, room := range []int{0, 1, 15, 16, 17, 100, 65535} {
		d := made(t, int64(room), create("a"), write("a", 0), write("a", 0, run(room)...))
		each(t, d, api.ErrFull, write("a", room, 7), write("a", 0, fill(room+1, 7)...))
		each(t, d, api.OK, write("a", 0, fill(room, 7)...), write("a", room))
		holds(t, d, has("a", fill(room, 7)...))
	}
	d := made(t, 1<<40, create("a"), create("b"), write("a", 0, run(65536)...), write("b", 65535, 1))
	holds(t, d, has("a", run(65536)...), has("b", join(fill(65535, 0), []byte{1})...))
}

// useless fails the test unless no method of a disk does or returns anything.
func useless(t *testing.T, d *disk.Disk) {
	t.Helper()
	for range 3 {
		each(t, d, api.ErrState, anySteps()...)
		each(t, d, api.ErrState, readSteps()...)
		if b, _ := d.Read("a"); len(b) != 0 {
			t.Errorf("Read returned %v", b)
		}
		if l := d.List(); len(l) != 0 {
			t.Errorf("List() = %q", l)
		}
		if d.Used() != 0 || d.Ops() != 0 || d.Down() {
			t.Errorf("Used() = %d, Ops() = %d, Down() = %t", d.Used(), d.Ops(), d.Down())
		}
		d.Trip(1)
		d.Stop(1)
		each(t, d, api.ErrState, create("a"), syncDir)
		d.Trip(0)
		d.Stop(-1)
		d.Reboot(nil, 0)
		d.Reboot(bits("11"), 3)
	}
}

func TestDisksThatNewDidNotCreate(t *testing.T) {
	useless(t, nil)
	useless(t, disk.New(-1))
	useless(t, &disk.Disk{})
	useless(t, new(disk.Disk))
	var d disk.Disk
	useless(t, &d)
}

func TestDown(t *testing.T) {
	d := made(t, 100, create("a"), create("b"), write("a", 0, 1, 2), sync("a"), syncDir)
	if d.Down() {
		t.Error("the disk is down")
	}
	d.Stop(1)
	each(t, d, api.ErrDown, sync("a"))
	counted(t, d, 6)
	n := 6
	for range 2 {
		// Also where another error applies.
		for _, s := range anySteps() {
			each(t, d, api.ErrDown, s)
			n++
			counted(t, d, n)
		}
		each(t, d, api.ErrDown, readSteps()...)
		if b, _ := d.Read("a"); len(b) != 0 {
			t.Errorf("Read returned %v", b)
		}
		if l := d.List(); len(l) != 0 || d.Used() != 0 {
			t.Errorf("List() = %q, Used() = %d", l, d.Used())
		}
		isDown(t, d)
		counted(t, d, n)
		// No selection brings it up again, or makes an operation fail otherwise.
		d.Trip(1)
		d.Stop(3)
		isDown(t, d)
	}
	d.Reboot(nil, 0)
	holds(t, d, has("a", 1, 2), has("b"))
	counted(t, d, n)
	each(t, d, api.OK, write("a", 2, 3), create("x"))
	holds(t, d, has("a", 1, 2, 3), has("b"), has("x"))
}

// Ds2: Create.

func TestCreate(t *testing.T) {
	d := made(t, 100, create("b"))
	holds(t, d, has("b"))
	each(t, d, api.OK, create("a"), create(longest), create("0"), create("."), create("..."))
	holds(t, d, has("."), has("..."), has("0"), has("a"), has(longest), has("b"))
	counted(t, d, 6)
}

func TestErrorsOfCreate(t *testing.T) {
	d := made(t, 100, create("a"), write("a", 0, 1, 2))
	for _, name := range []string{"", "A", "Z", "a b", "a/b", "a-b", "a_b", "é", "a\x00", "\xff", " ", ":", "`", "{", longest + "x", longest + longest} {
		each(t, d, api.ErrArg, create(name))
	}
	each(t, d, api.ErrThere, create("a"))
	holds(t, d, has("a", 1, 2))
	counted(t, d, 2)
}

func TestCreateOfTooMany(t *testing.T) {
	d := made(t, 100)
	var names []string
	for i := range 100 {
		names = append(names, "n"+string(rune('0'+i/10))+string(rune('0'+i%10)))
		each(t, d, api.OK, create(names[i]))
	}
	each(t, d, api.ErrFull, create("a"), create("z"))
	each(t, d, api.ErrThere, create("n00"), create("n99"))
	each(t, d, api.ErrArg, create(""), create("A"))
	counted(t, d, 100)
	if !slices.Equal(d.List(), names) {
		t.Errorf("List() = %q", d.List())
	}
	each(t, d, api.OK, syncDir)
	each(t, d, api.ErrFull, create("a"))
	// A name that was moved over, or removed, is one less.
	each(t, d, api.OK, move("n50", "n51"), create("a"))
	each(t, d, api.ErrFull, create("n50"))
	each(t, d, api.OK, remove("n99"), create("n50"))
	each(t, d, api.ErrFull, create("n99"))
	d.Reboot(nil, 0)
	if !slices.Equal(d.List(), names) {
		t.Errorf("List() = %q", d.List())
	}
	each(t, d, api.ErrFull, create("a"))
}

func TestCreateOfANameThatWasThere(t *testing.T) {
	// Removed.
	d := made(t, 100, create("a"), write("a", 0, 1, 2), sync("a"), remove("a"), create("a"))
	holds(t, d, has("a"))
	// Moved away.
	each(t, d, api.OK, write("a", 1, 5), move("a", "b"), create("a"))
	holds(t, d, has("a"), has("b", 0, 5))
	each(t, d, api.OK, write("a", 0, 7))
	holds(t, d, has("a", 7), has("b", 0, 5))
	// Moved over: the name is there, with the other file.
	each(t, d, api.OK, move("a", "b"))
	each(t, d, api.ErrThere, create("b"))
	holds(t, d, has("b", 7))
	each(t, d, api.OK, create("a"))
	holds(t, d, has("a"), has("b", 7))
	// The same after the directory was synced.
	each(t, d, api.OK, syncDir, remove("b"), syncDir, create("b"))
	holds(t, d, has("a"), has("b"))
}

// Ds2: Write.

func TestWrite(t *testing.T) {
	d := made(t, 200, create("a"), create("b"))
	for _, c := range []struct {
		at   int
		b    []byte
		want []byte
	}{
		{0, nil, nil},
		{9, nil, nil}, // no bytes leave no gap
		{0, []byte{1, 2, 3}, []byte{1, 2, 3}},
		{1, []byte{9}, []byte{1, 9, 3}},
		{0, nil, []byte{1, 9, 3}},
		{2, []byte{7, 8}, []byte{1, 9, 7, 8}},
		{6, []byte{5}, []byte{1, 9, 7, 8, 0, 0, 5}},
		{0, run(40), run(40)},
		{15, []byte{200, 201}, join(run(15), []byte{200, 201}, run(40)[17:])},
		{100, []byte{250}, join(run(15), []byte{200, 201}, run(40)[17:], fill(60, 0), []byte{250})},
	} {
		each(t, d, api.OK, write("a", c.at, c.b...))
		holds(t, d, has("a", c.want...), has("b"))
	}
	each(t, d, api.OK, write("b", 0, 4, 4))
	if b, err := d.Read("b"); err != api.OK || !bytes.Equal(b, []byte{4, 4}) {
		t.Errorf("Read of b = %v, %d", b, err)
	}
	counted(t, d, 13)
}

func TestErrorsOfWrite(t *testing.T) {
	d := made(t, 50, create("a"), create("b"), write("a", 0, 1, 2), write("b", 0, 3), remove("b"), create("c"), move("c", "d"))
	// No such name, whatever else applies.
	for _, name := range []string{"b", "c", "x", "", "A", longest + "x"} {
		each(t, d, api.ErrNone, write(name, 0, 1), write(name, 0), write(name, -1, 1), write(name, 65536, 1), write(name, 0, fill(51, 1)...), write(name, math.MinInt))
	}
	for _, at := range []int{-1, -2, -16, math.MinInt} {
		each(t, d, api.ErrArg, write("a", at), write("a", at, 1), write("a", at, fill(51, 1)...), write("a", at, fill(65537, 1)...))
	}
	// Too long, also where there is no room.
	each(t, d, api.ErrLong, write("a", 65536, 1), write("a", 65537), write("a", math.MaxInt), write("a", math.MaxInt, 1), write("a", math.MaxInt-16, run(40)...), write("a", 1, fill(65536, 1)...), write("a", 0, fill(65537, 1)...), write("a", 65530, run(7)...))
	each(t, d, api.ErrFull, write("a", 65535, 1), write("a", 0, fill(65536, 1)...), write("a", 0, fill(51, 1)...), write("a", 50, 1), write("a", 49, 1, 2))
	holds(t, d, has("a", 1, 2), has("d"))
	counted(t, d, 7)
	each(t, d, api.OK, write("a", 65536), write("a", 49, 1))
	holds(t, d, has("a", join([]byte{1, 2}, fill(47, 0), []byte{1})...), has("d"))
}

func TestLongestFile(t *testing.T) {
	d := made(t, 1<<40, create("a"), write("a", 0, run(65536)...))
	each(t, d, api.ErrLong, write("a", 65536, 1), write("a", 65535, 1, 2))
	each(t, d, api.OK, write("a", 65535, 250), write("a", 65536))
	holds(t, d, has("a", join(run(65535), []byte{250})...))
}

func TestRoomThatOtherFilesHave(t *testing.T) {
	d := made(t, 100, create("a"), create("b"), write("a", 0, run(60)...))
	each(t, d, api.ErrFull, write("b", 0, run(41)...), write("b", 40, 1))
	each(t, d, api.OK, write("b", 0, run(40)...))
	each(t, d, api.ErrFull, write("b", 40, 1), write("a", 60, 1), write("b", 39, 1, 2))
	// Within what is there already.
	each(t, d, api.OK, write("a", 0, fill(60, 7)...), write("b", 39, 9), write("a", 59, 8), write("a", 70), write("b", 0))
	holds(t, d, has("a", join(fill(59, 7), []byte{8})...), has("b", join(run(39), []byte{9})...))
	// A file without a name needs none, also if the directory is not synced.
	each(t, d, api.OK, remove("a"), write("b", 99, 5))
	each(t, d, api.ErrFull, write("b", 100, 1))
	each(t, d, api.OK, create("a"))
	each(t, d, api.ErrFull, write("a", 0, 1))
	each(t, d, api.OK, write("a", 0))
	each(t, d, api.OK, move("a", "b"), write("b", 0, run(100)...))
	holds(t, d, has("b", run(100)...))
}

func TestUsed(t *testing.T) {
	d := made(t, 100)
	for _, c := range []struct {
		s    step
		want int64
	}{
		{create("a"), 0},
		{write("a", 0, 1, 2, 3), 3},
		{write("a", 1, 9), 3},
		{write("a", 2, 9, 9), 4},
		{write("a", 7), 4},
		{write("a", 7, 1), 8},
		{sync("a"), 8},
		{create("b"), 8},
		{write("b", 0, run(20)...), 28},
		{syncDir, 28},
		{move("a", "c"), 28},
		{create("a"), 28},
		{move("c", "b"), 8}, // the file of b has no name any more
		{syncDir, 8},
		{move("a", "b"), 0},
		{write("b", 0, 1), 1},
		{remove("b"), 0},
		{syncDir, 0},
	} {
		each(t, d, api.OK, c.s)
		if n := d.Used(); n != c.want {
			t.Errorf("Used() = %d, want %d", n, c.want)
		}
	}
}

// Ds2: Sync and SyncDir.

func TestSync(t *testing.T) {
	d := made(t, 100, create("a"), syncDir, write("a", 0, run(20)...))
	each(t, d, api.ErrNone, sync("b"), sync(""), sync("A"), sync(longest+"x"))
	counted(t, d, 3)
	each(t, d, api.OK, sync("a"), write("a", 0, 250), write("a", 30, 251))
	holds(t, d, has("a", join([]byte{250}, run(20)[1:], fill(10, 0), []byte{251})...))
	d.Reboot(nil, 0)
	holds(t, d, has("a", run(20)...))
	// Of an empty file, and of a file that has another name now.
	d = made(t, 100, create("a"), sync("a"), syncDir, write("a", 0, 1), move("a", "b"), sync("b"), syncDir, write("b", 0, 2))
	each(t, d, api.ErrNone, sync("a"))
	d.Reboot(nil, 0)
	holds(t, d, has("b", 1))
}

func TestSyncIsOfOneFile(t *testing.T) {
	d := made(t, 100, create("a"), create("b"), syncDir, write("a", 0, 1), write("b", 0, 2), sync("b"))
	d.Reboot(nil, 0)
	holds(t, d, has("a"), has("b", 2))
}

func TestSyncDir(t *testing.T) {
	d := made(t, 100, syncDir, syncDir)
	holds(t, d)
	counted(t, d, 2)
	each(t, d, api.OK, create("a"), create("b"), write("a", 0, 1), sync("a"), syncDir, move("a", "c"), remove("b"), create("d"))
	holds(t, d, has("c", 1), has("d"))
	d.Reboot(nil, 0)
	holds(t, d, has("a", 1), has("b"))
	each(t, d, api.OK, move("a", "c"), remove("b"), create("d"), syncDir)
	d.Reboot(nil, 0)
	holds(t, d, has("c", 1), has("d"))
	// The directory only: not the bytes of files.
	each(t, d, api.OK, write("c", 0, 2), write("d", 0, 3), syncDir)
	d.Reboot(nil, all)
	holds(t, d, has("c", 1), has("d"))
}

// Ds2: Move and Remove.

func TestMove(t *testing.T) {
	d := made(t, 100, create("a"), create("b"), create("c"), write("a", 0, 1), write("b", 0, 2, 2), write("c", 0, 3, 3, 3), move("b", longest))
	holds(t, d, has("a", 1), has(longest, 2, 2), has("c", 3, 3, 3))
	each(t, d, api.OK, move(longest, "0"))
	holds(t, d, has("0", 2, 2), has("a", 1), has("c", 3, 3, 3))
	each(t, d, api.OK, move("c", "a"))
	holds(t, d, has("0", 2, 2), has("a", 3, 3, 3))
	each(t, d, api.OK, move("a", "0"), move("0", "a"))
	holds(t, d, has("a", 3, 3, 3))
	counted(t, d, 11)
}

func TestErrorsOfMove(t *testing.T) {
	d := made(t, 100, create("a"), create("b"), write("a", 0, 1))
	for _, name := range []string{"x", "", "A", longest, longest + "x"} {
		each(t, d, api.ErrNone, move(name, "a"), move(name, "y"), move(name, ""), move(name, name), move(name, "A"))
	}
	each(t, d, api.ErrArg, move("a", "a"), move("b", "b"), move("a", ""), move("a", "A"), move("a", longest+"x"), move("a", "b/"))
	holds(t, d, has("a", 1), has("b"))
	counted(t, d, 3)
}

func TestRemove(t *testing.T) {
	d := made(t, 100, create("a"), create("b"), write("a", 0, 1), write("b", 0, 2))
	each(t, d, api.ErrNone, remove("x"), remove(""), remove("A"), remove(longest+"x"))
	counted(t, d, 4)
	each(t, d, api.OK, remove("a"))
	holds(t, d, has("b", 2))
	each(t, d, api.ErrNone, remove("a"), sync("a"), write("a", 0, 1), move("a", "b"), read("a"))
	each(t, d, api.OK, remove("b"))
	holds(t, d)
	counted(t, d, 6)
}

// Ds2: Read, List and Ops.

func TestRead(t *testing.T) {
	d := made(t, 100, create("a"), create("b"), create("c"), write("b", 0, run(40)...), remove("c"))
	for _, c := range []struct {
		name string
		want []byte
		err  api.Errno
	}{
		{"a", nil, api.OK},
		{"b", run(40), api.OK},
		{"c", nil, api.ErrNone},
		{"x", nil, api.ErrNone},
		{"", nil, api.ErrNone},
		{"A", nil, api.ErrNone},
		{longest + "x", nil, api.ErrNone},
	} {
		if b, err := d.Read(c.name); err != c.err || !bytes.Equal(b, c.want) {
			t.Errorf("Read(%q) = %v, %d, want %v, %d", c.name, b, err, c.want, c.err)
		}
	}
	counted(t, d, 5)
	// It needs no counted operation, and so it is none that is selected.
	d.Trip(1)
	d.Stop(2)
	each(t, d, api.OK, read("a"), read("b"))
	each(t, d, api.ErrNone, read("c"))
	each(t, d, api.ErrIO, sync("a"))
	each(t, d, api.OK, read("b"))
	each(t, d, api.ErrDown, sync("a"), read("b"), read("c"))
}

func TestList(t *testing.T) {
	d := made(t, 100)
	if l := d.List(); len(l) != 0 {
		t.Errorf("List() = %q", l)
	}
	each(t, d, api.OK, create("b"), create("ab"), create("a"), create("a.b"), create("10"), create("9"), create("aa"))
	if l := d.List(); !slices.Equal(l, []string{"10", "9", "a", "a.b", "aa", "ab", "b"}) {
		t.Errorf("List() = %q", l)
	}
}

func TestOps(t *testing.T) {
	d := made(t, 50)
	for i, s := range []step{create("a"), write("a", 0, 1), write("a", 0), sync("a"), sync("a"), syncDir, syncDir, create("b"), move("a", "c"), move("c", "b"), remove("b"), create("a"), create("b"), create("c")} {
		each(t, d, api.OK, s)
		counted(t, d, i+1)
	}
	// With other errors.
	for _, s := range []step{create("a"), create(""), write("x", 0, 1), write("a", -1, 1), write("a", 65536, 1), write("a", 0, fill(51, 1)...), sync("x"), move("x", "y"), move("a", "a"), move("a", ""), remove("x"), read("a"), read("x")} {
		s(d)
		counted(t, d, 14)
	}
	d.List()
	d.Used()
	d.Down()
	d.Trip(1)
	counted(t, d, 14)
	each(t, d, api.ErrIO, write("a", 0, 1))
	counted(t, d, 15)
	d.Stop(1)
	counted(t, d, 15)
	each(t, d, api.ErrDown, write("a", 0, 1))
	counted(t, d, 16)
	each(t, d, api.ErrDown, write("a", 0, 1), create("a"), syncDir)
	counted(t, d, 19)
	d.Reboot(nil, 0)
	counted(t, d, 19)
	each(t, d, api.OK, syncDir)
	counted(t, d, 20)
}

// Ds3.

// bare returns a disk with two empty files a and b, on which three operations were counted.
func bare(t *testing.T) *disk.Disk {
	t.Helper()
	return made(t, 100, create("a"), create("b"), syncDir)
}

// extend returns a step that writes one byte at an offset of the file a.
func extend(at int) step { return write("a", at, byte(at+1)) }

func TestTrip(t *testing.T) {
	for n := 1; n <= 6; n++ {
		d := bare(t)
		d.Trip(n)
		for i := 1; i <= 8; i++ {
			want := api.OK
			if i == n {
				want = api.ErrIO
			}
			each(t, d, want, extend(i-1))
			counted(t, d, 3+i)
		}
		b := run(8)
		b[n-1] = 0
		holds(t, d, has("a", b...), has("b"))
	}
	// An operation far away is not reached.
	for _, n := range []int{9, 1 << 40, math.MaxInt} {
		d := bare(t)
		d.Trip(n)
		for i := range 8 {
			each(t, d, api.OK, extend(i))
		}
		holds(t, d, has("a", run(8)...), has("b"))
	}
}

func TestStop(t *testing.T) {
	for n := 1; n <= 6; n++ {
		d := bare(t)
		d.Stop(n)
		for i := 1; i <= 8; i++ {
			want := api.OK
			if i >= n {
				want = api.ErrDown
			}
			each(t, d, want, extend(i-1))
			counted(t, d, 3+i)
			if d.Down() != (i >= n) {
				t.Errorf("Stop(%d): Down() = %t after %d operations", n, d.Down(), i)
			}
		}
		d.Reboot(slices.Repeat([]bool{true}, 8), all)
		holds(t, d, has("a", run(n-1)...), has("b"))
	}
	for _, n := range []int{9, 1 << 40, math.MaxInt} {
		d := bare(t)
		d.Stop(n)
		for i := range 8 {
			each(t, d, api.OK, extend(i))
		}
		holds(t, d, has("a", run(8)...), has("b"))
	}
}

func TestClearedSelections(t *testing.T) {
	for _, n := range []int{0, -1, -7, math.MinInt} {
		d := bare(t)
		d.Trip(n)
		d.Stop(n)
		each(t, d, api.OK, extend(0), extend(1), extend(2))
		d.Trip(2)
		d.Stop(4)
		each(t, d, api.OK, extend(3))
		d.Trip(n)
		each(t, d, api.OK, extend(4), extend(5))
		d.Stop(n)
		each(t, d, api.OK, extend(6), extend(7))
		holds(t, d, has("a", run(8)...), has("b"))
		// Each clears its own selection.
		d.Trip(1)
		d.Stop(n)
		each(t, d, api.ErrIO, extend(0))
		d.Stop(1)
		d.Trip(n)
		each(t, d, api.ErrDown, extend(0))
	}
}

func TestSecondSelection(t *testing.T) {
	d := bare(t)
	d.Trip(2)
	each(t, d, api.OK, extend(0))
	d.Trip(2) // counted from here on
	each(t, d, api.OK, extend(1))
	each(t, d, api.ErrIO, extend(2))
	each(t, d, api.OK, extend(2), extend(3))
	d.Trip(1)
	d.Trip(3)
	each(t, d, api.OK, extend(4), extend(5))
	each(t, d, api.ErrIO, extend(6))
	d.Stop(1)
	d.Stop(2)
	each(t, d, api.OK, extend(6))
	d.Stop(2)
	each(t, d, api.OK, extend(7))
	holds(t, d, has("a", run(8)...), has("b"))
	each(t, d, api.ErrDown, extend(8))
	isDown(t, d)
}

func TestBothSelections(t *testing.T) {
	// The same operation.
	for n := 1; n <= 3; n++ {
		for _, first := range []bool{true, false} {
			d := bare(t)
			if first {
				d.Trip(n)
			}
			d.Stop(n)
			if !first {
				d.Trip(n)
			}
			for i := range n - 1 {
				each(t, d, api.OK, extend(i))
			}
			each(t, d, api.ErrDown, extend(n-1))
			isDown(t, d)
			counted(t, d, 3+n)
			d.Reboot(slices.Repeat([]bool{true}, 8), all)
			holds(t, d, has("a", run(n-1)...), has("b"))
			// Nothing is selected any more.
			each(t, d, api.OK, extend(0), extend(1), extend(2))
		}
	}
	// Trip first: what fails is counted for Stop too.
	d := bare(t)
	d.Trip(1)
	d.Stop(3)
	each(t, d, api.ErrIO, extend(0))
	each(t, d, api.OK, extend(0))
	each(t, d, api.ErrDown, extend(1))
	isDown(t, d)
	// Stop first.
	d = bare(t)
	d.Trip(3)
	d.Stop(2)
	each(t, d, api.OK, extend(0))
	each(t, d, api.ErrDown, extend(1), extend(2), extend(3))
}

func TestSelectionsCountOnlyCountedOperations(t *testing.T) {
	d := bare(t)
	wrong := func() {
		t.Helper()
		each(t, d, api.ErrThere, create("a"))
		each(t, d, api.ErrArg, create("A"), write("a", -1, 1), move("a", "a"))
		each(t, d, api.ErrNone, write("x", 0, 1), sync("x"), move("x", "y"), remove("x"), read("x"))
		each(t, d, api.ErrLong, write("a", 65536, 1))
		each(t, d, api.ErrFull, write("a", 100, 1))
		each(t, d, api.OK, read("a"))
		d.List()
		d.Used()
		d.Ops()
		d.Down()
	}
	d.Trip(2)
	d.Stop(4)
	wrong()
	each(t, d, api.OK, extend(0))
	wrong()
	each(t, d, api.ErrIO, extend(1))
	wrong()
	each(t, d, api.OK, extend(1))
	wrong()
	each(t, d, api.ErrDown, extend(2))
	isDown(t, d)
	counted(t, d, 7)
}
