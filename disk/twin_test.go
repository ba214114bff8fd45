package disk_test

import (
	"bytes"
	"math"
	"math/rand/v2"
	"slices"
	"testing"

	"newsreel/api"
	"newsreel/disk"
)

// A second way of keeping a disk: names in maps, bytes written one by one, and operations selected by their number since New.

type patch struct {
	at int
	b  []byte
}

type content struct {
	now, sure []byte
	pend      []patch
}

type change struct {
	kind     int
	name, to string
	node     int
}

type twin struct {
	room      int
	now, sure map[string]int
	pend      []change
	files     map[int]*content
	last      int
	ops       int
	trip      int
	stop      int
	down      bool
}

// newTwin returns an empty disk.
func newTwin(room int) *twin {
	return &twin{room: room, now: map[string]int{}, sure: map[string]int{}, files: map[int]*content{}}
}

// called reports whether s is a name.
func called(s string) bool {
	return len(s) >= 1 && len(s) <= 24 && len(bytes.Trim([]byte(s), "abcdefghijklmnopqrstuvwxyz0123456789.")) == 0
}

// apply returns names with a change made.
func apply(names map[string]int, c change) {
	switch c.kind {
	case 1:
		names[c.name] = c.node
	case 2:
		names[c.to] = names[c.name]
		delete(names, c.name)
	case 3:
		delete(names, c.name)
	}
}

// over returns f with b written at the offset at, byte by byte; a gap is filled with bytes 0.
func over(f []byte, at int, b []byte) []byte {
	out := bytes.Clone(f)
	for i, x := range b {
		for len(out) <= at+i {
			out = append(out, 0)
		}
		out[at+i] = x
	}
	return out
}

// do counts an operation without another error, and performs it if it is to be.
func (w *twin) do(perform func()) api.Errno {
	w.ops++
	switch w.ops {
	case w.stop:
		w.down = true
		return api.ErrDown
	case w.trip:
		return api.ErrIO
	}
	perform()
	return api.OK
}

// dirDo makes a change of the directory.
func (w *twin) dirDo(c change) api.Errno {
	return w.do(func() {
		apply(w.now, c)
		w.pend = append(w.pend, c)
		if c.kind == 1 {
			w.last = c.node
			w.files[c.node] = &content{}
		}
	})
}

// used returns the number of bytes of the files that have a name.
func (w *twin) used() int {
	n := 0
	for _, node := range w.now {
		n += len(w.files[node].now)
	}
	return n
}

// Kinds of steps.
const (
	asCreate = iota
	asWrite
	asSync
	asSyncDir
	asMove
	asRemove
	asRead
	kinds
)

// order is a step with all that it may have.
type order struct {
	kind     int
	name, to string
	at       int
	b        []byte
}

// step returns the step as a call of a method.
func (o order) step() step {
	return []step{create(o.name), write(o.name, o.at, o.b...), sync(o.name), syncDir, move(o.name, o.to), remove(o.name), read(o.name)}[o.kind]
}

// obey performs a step on the second disk.
func (w *twin) obey(o order) api.Errno {
	if w.down {
		if o.kind != asRead {
			w.ops++
		}
		return api.ErrDown
	}
	node, there := w.now[o.name]
	if o.kind != asCreate && o.kind != asSyncDir && !there {
		return api.ErrNone
	}
	switch o.kind {
	case asCreate:
		if !called(o.name) {
			return api.ErrArg
		}
		if there {
			return api.ErrThere
		}
		if len(w.now) == 100 {
			return api.ErrFull
		}
		return w.dirDo(change{kind: 1, name: o.name, node: w.last + 1})
	case asWrite:
		return w.write(w.files[node], o.at, o.b)
	case asSync:
		f := w.files[node]
		return w.do(func() { f.sure, f.pend = f.now, nil })
	case asSyncDir:
		return w.do(func() {
			w.pend = nil
			w.sure = map[string]int{}
			for name, node := range w.now {
				w.sure[name] = node
			}
		})
	case asMove:
		if !called(o.to) || o.to == o.name {
			return api.ErrArg
		}
		return w.dirDo(change{kind: 2, name: o.name, to: o.to})
	case asRemove:
		return w.dirDo(change{kind: 3, name: o.name})
	}
	return api.OK
}

// write performs a Write.
func (w *twin) write(f *content, at int, b []byte) api.Errno {
	if at < 0 {
		return api.ErrArg
	}
	if at > 65536 || at+len(b) > 65536 {
		return api.ErrLong
	}
	now := over(f.now, at, b)
	if w.used()+len(now)-len(f.now) > w.room {
		return api.ErrFull
	}
	return w.do(func() {
		f.now = now
		for i, x := range b {
			if i == 0 || (at+i)%16 == 0 {
				f.pend = append(f.pend, patch{at: at + i})
			}
			last := &f.pend[len(f.pend)-1]
			last.b = append(last.b, x)
		}
	})
}

// reboot crashes the second disk; it reports whether a name came back that was removed, or moved over.
func (w *twin) reboot(l []bool, ops int) bool {
	back := false
	w.now = map[string]int{}
	for name, node := range w.sure {
		w.now[name] = node
	}
	names := map[string]int{}
	for name, node := range w.sure {
		names[name] = node
	}
	for i, c := range w.pend {
		_, there := names[c.to]
		if i >= ops && (c.kind == 3 || c.kind == 2 && there) {
			back = true
		}
		apply(names, c)
		if i < ops {
			apply(w.now, c)
		}
	}
	w.sure = map[string]int{}
	named := map[int]bool{}
	for name, node := range w.now {
		w.sure[name] = node
		named[node] = true
	}
	w.pend = nil
	at := 0
	for node := 1; node <= w.last; node++ {
		if !named[node] {
			delete(w.files, node)
			continue
		}
		f := w.files[node]
		for _, p := range f.pend {
			if at < len(l) && l[at] {
				f.sure = over(f.sure, p.at, p.b)
			}
			at++
		}
		f.now, f.pend = f.sure, nil
	}
	w.down, w.trip, w.stop = false, 0, 0
	return back
}

// agree fails the test unless both disks are in the same state.
func agree(t *testing.T, d *disk.Disk, w *twin) {
	t.Helper()
	counted(t, d, w.ops)
	if d.Down() != w.down {
		t.Fatalf("Down() = %t", d.Down())
	}
	if w.down {
		if l := d.List(); len(l) != 0 || d.Used() != 0 {
			t.Fatalf("List() = %q, Used() = %d of a disk that is down", l, d.Used())
		}
		return
	}
	var want []held
	for name, node := range w.now {
		want = append(want, held{name, w.files[node].now})
	}
	slices.SortFunc(want, func(g, h held) int { return bytes.Compare([]byte(g.name), []byte(h.name)) })
	holds(t, d, want...)
}

// input is a text of bytes that says what is done to a disk.
type input struct{ b []byte }

// next returns a number less than n, from the next byte; 0 behind the end.
func (i *input) next(n int) int {
	if len(i.b) == 0 {
		return 0
	}
	x := int(i.b[0])
	i.b = i.b[1:]
	return x % n
}

// name returns one of a few names; some of them are none.
func (i *input) name() string {
	return []string{"a", "b", "c", "d", "a", "b", "c", "e.1", "a", "b", longest, "", "A", longest + "x"}[i.next(14)]
}

// bytes returns some bytes, at times very many.
func (i *input) bytes() []byte {
	n := []int{1, 2, 3, 5, 7, 16, 17, 20, 33, 0, 1, 2, 40, 65536, 65537}[i.next(15)]
	return fill(n, byte(i.next(256)))
}

// offset returns an offset, at times none.
func (i *input) offset() int {
	return []int{0, 1, 2, 5, 14, 15, 16, 17, 20, 30, 31, 33, 47, 0, 1, 0, 100, 65520, 65536, 65537, -1, math.MaxInt, math.MinInt}[i.next(23)]
}

// play does to both disks what the input says, and compares them after each step.
func play(t *testing.T, b []byte) {
	i := &input{b}
	// The long ones seldom: they take time.
	room := []int{100, 40, 60, 1000, 100, 40, 0, 1, 65536, 1 << 40}[i.next(10)]
	d, w := disk.New(int64(room)), newTwin(room)
	back := false
	for len(i.b) > 0 && !t.Failed() {
		switch k := i.next(24); {
		case k == 0:
			n := i.next(8) - 1
			d.Trip(n)
			w.trip = 0
			if n > 0 {
				w.trip = w.ops + n
			}
		case k == 1:
			n := i.next(8) - 1
			d.Stop(n)
			w.stop = 0
			if n > 0 {
				w.stop = w.ops + n
			}
		case k == 2 || k == 3 && w.down:
			var l []bool
			for range i.next(20) {
				l = append(l, i.next(2) == 1)
			}
			n := i.next(10) - 1
			d.Reboot(l, n)
			back = w.reboot(l, n) || back
		default:
			o := order{kind: []int{asCreate, asWrite, asWrite, asWrite, asSync, asSync, asSyncDir, asMove, asMove, asRemove, asRead}[i.next(11)], name: i.name()}
			switch o.kind {
			case asMove:
				o.to = i.name()
			case asWrite:
				o.at, o.b = i.offset(), i.bytes()
			}
			if got, want := o.step()(d), w.obey(o); got != want {
				t.Fatalf("kind %d, %q, %q, %d bytes at %d: error %d, want %d", o.kind, o.name, o.to, len(o.b), o.at, got, want)
			}
		}
		agree(t, d, w)
		// Unless a crash brought back a name whose room was given to others since.
		if !back && d.Used() > int64(room) {
			t.Fatalf("Used() = %d of %d", d.Used(), room)
		}
	}
}

// some returns n bytes.
func some(dice *rand.Rand, n int) []byte {
	b := make([]byte, n)
	for i := range b {
		b[i] = byte(dice.IntN(256))
	}
	return b
}

func TestManySteps(t *testing.T) {
	dice := rand.New(rand.NewPCG(11, 1))
	for range 4000 {
		play(t, some(dice, 20+dice.IntN(200)))
		if t.Failed() {
			return
		}
	}
}

func FuzzDisk(f *testing.F) {
	dice := rand.New(rand.NewPCG(11, 4))
	f.Add([]byte{})
	for range 40 {
		f.Add(some(dice, 120))
	}
	f.Fuzz(play)
}
