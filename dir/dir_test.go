package dir_test

import (
	"maps"
	"math"
	"math/rand/v2"
	"slices"
	"strings"
	"testing"

	"newsreel/api"
	"newsreel/dir"
)

// longest is a name of 24 bytes.
const longest = "abcdefghijklmnopqrstu0.9"

// entry returns an entry.
func entry(name string, node int) api.Entry { return api.Entry{Name: name, Node: node} }

// entries returns a list of the entries given.
func entries(l ...api.Entry) []api.Entry { return l }

// link, move and unlink return operations that have only the fields of their kind.
func link(name string, node int) api.DirOp {
	return api.DirOp{Kind: 1, Name: name, Node: node}
}

func move(name, to string) api.DirOp { return api.DirOp{Kind: 2, Name: name, To: to} }

func unlink(name string) api.DirOp { return api.DirOp{Kind: 3, Name: name} }

// ops returns a list of the operations given.
func ops(l ...api.DirOp) []api.DirOp { return l }

// many returns n entries with names in their order, of the nodes 1 to n; no name of one byte is among them.
func many(n int) []api.Entry {
	var l []api.Entry
	for i := range n {
		l = append(l, entry("m"+string(rune('0'+i/100))+string(rune('0'+i/10%10))+string(rune('0'+i%10)), i+1))
	}
	return l
}

// same reports whether two directories have the same entries and operations.
func same(d, e api.Dir) bool {
	return slices.Equal(d.Now, e.Now) && slices.Equal(d.Sure, e.Sure) && slices.Equal(d.Pend, e.Pend)
}

// empty reports whether a directory is the zero directory.
func empty(d api.Dir) bool { return len(d.Now) == 0 && len(d.Sure) == 0 && len(d.Pend) == 0 }

// copied returns a directory in new memory.
func copied(d api.Dir) api.Dir {
	return api.Dir{Now: slices.Clone(d.Now), Sure: slices.Clone(d.Sure), Pend: slices.Clone(d.Pend)}
}

// called reports whether s is a name, after the chapter's words.
func called(s string) bool {
	rest := strings.Trim(s, "abcdefghijklmnopqrstuvwxyz0123456789.")
	return s != "" && rest == "" && len(s) <= 24
}

// after returns l with an operation performed: by name, in no order, and then sorted.
func after(l []api.Entry, op api.DirOp) []api.Entry {
	nodes := map[string]int{}
	for _, e := range l {
		nodes[e.Name] = e.Node
	}
	node := nodes[op.Name]
	switch op.Kind {
	case api.OpLink:
		nodes[op.Name] = op.Node
	case api.OpMove:
		nodes[op.To] = node
		delete(nodes, op.Name)
	case api.OpUnlink:
		delete(nodes, op.Name)
	}
	var out []api.Entry
	for _, name := range slices.Sorted(maps.Keys(nodes)) {
		out = append(out, entry(name, nodes[name]))
	}
	return out
}

// afterAll returns l with operations performed, one after the other.
func afterAll(l []api.Entry, list ...api.DirOp) []api.Entry {
	out := slices.Clone(l)
	for _, op := range list {
		out = after(out, op)
	}
	return out
}

// errorOf returns the error of an operation on the entries l, after the chapter's words.
func errorOf(l []api.Entry, op api.DirOp) api.Errno {
	has := func(name string) bool {
		return slices.ContainsFunc(l, func(e api.Entry) bool { return e.Name == name })
	}
	switch {
	case op.Kind < 1 || op.Kind > 3:
		return api.ErrKind
	case op.Kind == 1 && !called(op.Name):
		return api.ErrArg
	case op.Kind == 1 && has(op.Name):
		return api.ErrThere
	case op.Kind == 1 && len(l) >= 100:
		return api.ErrFull
	case op.Kind != 1 && !has(op.Name):
		return api.ErrNone
	case op.Kind == 2 && (!called(op.To) || op.To == op.Name):
		return api.ErrArg
	}
	return api.OK
}

// synced returns a valid directory with these entries, synced.
func synced(l ...api.Entry) api.Dir { return api.Dir{Now: slices.Clone(l), Sure: slices.Clone(l)} }

// pending returns a valid directory with these synced entries, and these operations performed since.
func pending(sure []api.Entry, list ...api.DirOp) api.Dir {
	return api.Dir{Now: afterAll(sure, list...), Sure: slices.Clone(sure), Pend: list}
}

// right fails the test unless Right(d) returns want.
func right(t *testing.T, d api.Dir, want bool) {
	t.Helper()
	if got := dir.Right(d); got != want {
		t.Errorf("Right(%v) = %t, want %t", d, got, want)
	}
}

// finds fails the test unless Find(d, name) returns node and ok.
func finds(t *testing.T, d api.Dir, name string, node int, ok bool) {
	t.Helper()
	if n, found := dir.Find(d, name); n != node || found != ok {
		t.Errorf("Find(%v, %q) = %d, %t, want %d, %t", d.Now, name, n, found, node, ok)
	}
}

// does fails the test unless Do(d, op) returns d with these entries and op at the end of Pend; it returns what Do did.
func does(t *testing.T, d api.Dir, op api.DirOp, now []api.Entry) api.Dir {
	t.Helper()
	want := api.Dir{Now: now, Sure: d.Sure, Pend: slices.Concat(d.Pend, ops(op))}
	e, err := dir.Do(d, op)
	if err != api.OK || !same(e, want) {
		t.Errorf("Do(%v, %v) = %v, %d, want %v", d, op, e, err, want)
	}
	right(t, e, true)
	return e
}

// fails fails the test unless Do(d, op) returns this error, and the zero directory beside it.
func fails(t *testing.T, d api.Dir, op api.DirOp, want api.Errno) {
	t.Helper()
	if e, err := dir.Do(d, op); err != want || !empty(e) {
		t.Errorf("Do(%v, %v) = %v, %d, want the error %d", d, op, e, err, want)
	}
}

// syncs fails the test unless Sync(d) returns a directory with these entries, synced.
func syncs(t *testing.T, d api.Dir, want []api.Entry) {
	t.Helper()
	if e := dir.Sync(d); !same(e, synced(want...)) {
		t.Errorf("Sync(%v) = %v, want %v", d, e, want)
	}
}

// crashes fails the test unless Crash(d, n) returns a directory with these entries, synced.
func crashes(t *testing.T, d api.Dir, n int, want []api.Entry) {
	t.Helper()
	if e := dir.Crash(d, n); !same(e, synced(want...)) {
		t.Errorf("Crash(%v, %d) = %v, want %v", d, n, e, want)
	}
}

// refused fails the test unless all functions treat d as an invalid directory.
func refused(t *testing.T, d api.Dir) {
	t.Helper()
	right(t, d, false)
	for _, op := range slices.Concat(wrongOps(), ops(link("zz", 1), link("a", 1), move("b", "zz"), move("a", "b"), unlink("a"), unlink("b"))) {
		// Also where the operation is wrong: the error of the directory is named first.
		fails(t, d, op, api.ErrState)
	}
	if e := dir.Sync(d); !empty(e) {
		t.Errorf("Sync of the invalid directory %v = %v", d, e)
	}
	for _, n := range []int{0, 1, 2, len(d.Pend), len(d.Pend) + 1, -1, math.MaxInt, math.MinInt} {
		if e := dir.Crash(d, n); !empty(e) {
			t.Errorf("Crash of the invalid directory %v with %d = %v", d, n, e)
		}
	}
}

// wrongNames are no names.
func wrongNames() []string {
	return []string{"", "A", "Z", "aB", "Ba", "a b", " a", "a ", "a/b", "a:b", "a`", "{a", "a-b", "a_b", "a\x00", "\x00", "a\n", "é", "\x80", "\xff", longest + "a", longest + ".", strings.Repeat("a", 1000), strings.Repeat("a", 280)}
}

// wrongKinds are no kinds.
func wrongKinds() []int {
	return []int{0, -1, -2, -3, 4, 5, 16, 257, 258, 259, 1<<16 + 2, 1<<32 + 1, 1<<32 + 2, 1<<32 + 3, math.MaxInt, math.MinInt}
}

// wrongOps are operations that cannot be performed where there is b and neither a nor c, and where there is nothing at all.
func wrongOps() []api.DirOp {
	l := ops(api.DirOp{}, move("a", "d"), move("a", "b"), move("a", "a"), move("b", "b"), move("", "d"), move("a", ""), move("", ""), unlink("a"), unlink("c"), unlink(""), unlink("B"), unlink("b."))
	for _, kind := range wrongKinds() {
		l = append(l, api.DirOp{Kind: kind, Name: "a", Node: 1}, api.DirOp{Kind: kind, Name: "b", To: "d"}, api.DirOp{Kind: kind})
	}
	for _, name := range wrongNames() {
		l = append(l, link(name, 1), move("b", name), move(name, "d"), unlink(name))
	}
	return l
}

// several are valid directories of all kinds.
func several() []api.Dir {
	return []api.Dir{
		{},
		{Now: []api.Entry{}, Sure: []api.Entry{}, Pend: []api.DirOp{}},
		synced(entry("a", 1)),
		synced(entry("b", 0)),
		synced(entry("b", -5), entry("d", 7)),
		synced(entry(".", 1), entry("0", 1), entry("9", 1), entry("a", 1), entry("z", 1)),
		synced(entry("a", 3), entry(longest, 1), entry("b", 2)),
		synced(many(99)...),
		synced(many(100)...),
		pending(nil, link("a", 7)),
		pending(nil, link("a", 1), move("a", "b")),
		pending(nil, link("a", 1), unlink("a")),
		pending(nil, link("b", 1), link("a", 2), link("c", 3), move("a", "c"), unlink("b")),
		pending(entries(entry("a", 1), entry("c", 3)), link("b", 2)),
		pending(entries(entry("a", 1), entry("c", 3)), move("c", "a"), link("c", 4)),
		pending(entries(entry("a", 1), entry("b", 2), entry("c", 3)), unlink("b"), link("b", 2)),
		pending(entries(entry("a", 1), entry("b", 2), entry("c", 3)), move("a", "x"), move("x", "a")),
		pending(entries(entry("a", 1), entry("b", 2), entry("c", 3)), move("a", "d"), move("b", "e"), unlink("c"), move("d", "a"), link("d", 9)),
		pending(many(99), link("a", 5)),
		pending(many(100), unlink("m000"), link("z", 6), move("z", "a")),
		pending(many(100), move("m000", "m099"), link("b", -1)),
	}
}

// Di1: Name.

// names fails the test unless Name(s) returns want.
func names(t *testing.T, s string, want bool) {
	t.Helper()
	if got := dir.Name(s); got != want {
		t.Errorf("Name(%q) = %t, want %t", s, got, want)
	}
}

func TestName(t *testing.T) {
	for _, s := range []string{"a", "z", "m", "0", "9", "5", ".", "..", "...", "a.", ".a", "p1.0", "0a", "00", "az09.", "media.1", longest, strings.Repeat(".", 24), strings.Repeat("z", 24), strings.Repeat("0", 23)} {
		names(t, s, true)
	}
	for _, s := range wrongNames() {
		names(t, s, false)
	}
}

func TestLengthOfNames(t *testing.T) {
	for _, s := range []string{"a", "z", "0", "9", "."} {
		for n := range 300 {
			names(t, strings.Repeat(s, n), n >= 1 && n <= 24)
		}
		for _, n := range []int{1 << 16, 1<<16 + 1, 1<<16 + 24} {
			names(t, strings.Repeat(s, n), false)
		}
	}
}

func TestEveryByteOfNames(t *testing.T) {
	for c := range 256 {
		want := strings.IndexByte("abcdefghijklmnopqrstuvwxyz0123456789.", byte(c)) >= 0
		s := string([]byte{byte(c)})
		names(t, s, want)
		for _, n := range []int{1, 2, 23} {
			rest := longest[:n]
			names(t, s+rest, want)
			names(t, rest+s, want)
			names(t, rest[:n/2]+s+rest[n/2:], want)
		}
		names(t, longest+s, false)
		names(t, s+longest, false)
	}
}

// Di1: Right.

func TestRight(t *testing.T) {
	for _, d := range several() {
		right(t, d, true)
	}
	a, b, c := entry("a", 1), entry("b", 2), entry("c", 3)
	for _, x := range []struct {
		now, sure []api.Entry
		pend      []api.DirOp
		want      bool
	}{
		{nil, nil, nil, true}, // the empty directory
		{entries(), nil, ops(), true},
		{entries(a), entries(a), nil, true},
		{entries(a), nil, nil, false},
		{nil, entries(a), nil, false},
		{entries(entry("", 0)), nil, nil, false},
		{entries(a), nil, ops(link("a", 1)), true},
		{entries(a), nil, ops(link("a", 2)), false},
		{nil, nil, ops(link("a", 1)), false},
		{entries(a), entries(a), ops(link("a", 1)), false}, // it exists
		{entries(entry("a", 2)), entries(a), ops(link("a", 2)), false},
		{entries(a, b), entries(a), ops(link("b", 2)), true},
		{entries(b, a), entries(a), ops(link("b", 2)), false},
		{entries(a, b), entries(b), ops(link("a", 1)), true},
		{entries(a, b, c), entries(a, c), ops(link("b", 2)), true},
		{entries(a, c, b), entries(a, c), ops(link("b", 2)), false},
		{entries(a, b, c), nil, ops(link("c", 3), link("a", 1), link("b", 2)), true},
		{entries(entry("b", 1)), entries(a), ops(move("a", "b")), true},
		{entries(a), entries(a), ops(move("a", "b")), false},
		{entries(a, entry("b", 1)), entries(a), ops(move("a", "b")), false}, // both names
		{nil, entries(a), ops(move("a", "b")), false},                       // none of them
		{entries(entry("b", 1)), entries(a, b), ops(move("a", "b")), true},  // over another one
		{entries(b), entries(a, b), ops(move("a", "b")), false},
		{entries(entry("a", 2)), entries(a, b), ops(move("b", "a")), true},
		{entries(entry("b", 1), entry("c", 2)), entries(a, b), ops(move("b", "c"), move("a", "b")), true}, // in this order
		{entries(entry("c", 1)), entries(a, b), ops(move("a", "b"), move("b", "c")), true},                // in the other one
		{entries(entry("b", 1), entry("c", 2)), entries(a, b), ops(move("a", "b"), move("b", "c")), false},
		{nil, entries(a), ops(unlink("a")), true},
		{entries(a), entries(a), ops(unlink("a")), false},
		{entries(b), entries(a), ops(unlink("a"), link("b", 2)), true},
		{entries(a), entries(a), ops(unlink("a"), link("a", 1)), true},
		{entries(a), entries(a), ops(unlink("a"), unlink("a")), false},
		{nil, entries(a), ops(unlink("a"), unlink("a")), false},
		{nil, entries(a), ops(unlink("a"), move("a", "b")), false},
		{nil, nil, ops(unlink("a"), link("a", 1)), false}, // first it must be there
		{nil, nil, ops(link("a", 1), unlink("a")), true},
	} {
		d := api.Dir{Now: x.now, Sure: x.sure, Pend: x.pend}
		right(t, d, x.want)
		if !x.want {
			refused(t, d)
		}
	}
}

func TestAnyNodeIsAllowed(t *testing.T) {
	for _, n := range []int{0, 1, -1, 100, 101, 1 << 40, math.MaxInt, math.MinInt} {
		right(t, synced(entry("a", n), entry("b", n)), true)
		d := does(t, synced(entry("a", n)), link("b", n), entries(entry("a", n), entry("b", n)))
		finds(t, d, "b", n, true)
		finds(t, does(t, d, move("b", "c"), entries(entry("a", n), entry("c", n))), "c", n, true)
		finds(t, does(t, d, move("b", "a"), entries(entry("a", n))), "a", n, true)
	}
}

func TestNumberOfEntries(t *testing.T) {
	for n := range 101 {
		right(t, synced(many(n)...), true)
	}
	for _, n := range []int{101, 102, 150, 200, 356} {
		l := many(n)
		refused(t, synced(l...))
		// Also if there are not too many any more.
		var list []api.DirOp
		for _, e := range l[:n-50] {
			list = append(list, unlink(e.Name))
		}
		refused(t, pending(l, list...))
		refused(t, pending(l, unlink("m000")))
		refused(t, pending(l, move("m000", "m001")))
	}
	// One that is linked to a hundred.
	refused(t, pending(many(100), link("a", 1)))
	refused(t, pending(many(99), link("a", 1), link("b", 1)))
	refused(t, pending(many(100), link("a", 1), unlink("a")))
	right(t, pending(many(100), unlink("m050"), link("a", 1)), true)
	right(t, pending(many(100), move("m000", "m001"), link("a", 1)), true)
	right(t, pending(many(100), move("m000", "a")), true)
	right(t, pending(many(99), link("a", 1)), true)
	refused(t, pending(many(100), move("m000", "a"), link("m000", 1)))
}

func TestEntriesWithWrongNames(t *testing.T) {
	good := entries(entry("b", 2), entry("d", 4))
	for _, name := range wrongNames() {
		refused(t, synced(entry(name, 1)))
		// At each place, also at the one that it has in the order.
		for i := range len(good) + 1 {
			l := slices.Insert(slices.Clone(good), i, entry(name, 1))
			refused(t, synced(l...))
			refused(t, pending(l, unlink("b")))
			refused(t, api.Dir{Now: good, Sure: l})
		}
		l := slices.SortedFunc(slices.Values(append(entries(entry(name, 1)), good...)), func(e, f api.Entry) int { return strings.Compare(e.Name, f.Name) })
		refused(t, synced(l...))
		// It is there no more.
		refused(t, api.Dir{Now: good, Sure: l, Pend: ops(unlink(name))})
		refused(t, api.Dir{Now: after(l, move(name, "c")), Sure: l, Pend: ops(move(name, "c"))})
	}
}

func TestOrderOfEntries(t *testing.T) {
	// Byte by byte: a period ahead of digits ahead of letters, and a part of a name ahead of it.
	sorted := []string{".", "..", ".0", ".a", "0", "0.", "00", "0a", "1", "10", "2", "9", "a", "a.", "a.z", "a0", "a9", "aa", "ab", longest, "az", "b", "z", "zz"}
	for i, s := range sorted {
		for k, u := range sorted {
			d := synced(entry(s, 1), entry(u, 2))
			right(t, d, i < k)
			if i >= k {
				refused(t, d)
			}
		}
	}
	var l []api.Entry
	for i, s := range sorted {
		l = append(l, entry(s, i))
	}
	right(t, synced(l...), true)
	for i := 1; i < len(l); i++ {
		// Two of them in the other order, and one of them twice.
		m := slices.Clone(l)
		m[i-1], m[i] = m[i], m[i-1]
		refused(t, synced(m...))
		m = slices.Insert(slices.Clone(l), i, l[i])
		refused(t, synced(m...))
		m[i].Node = 99
		refused(t, synced(m...))
		refused(t, synced(append(slices.Clone(l), l[i-1])...))
	}
	refused(t, synced(entry("a", 1), entry("a", 1)))
	refused(t, synced(entry("a", 1), entry("a", 2)))
	refused(t, synced(entry("a", 1), entry("b", 1), entry("a", 1)))
	refused(t, synced(entry("b", 1), entry("c", 1), entry("a", 1)))
	// One of two is removed, or all that is not in order.
	refused(t, api.Dir{Now: entries(entry("a", 1)), Sure: entries(entry("a", 1), entry("a", 1)), Pend: ops(unlink("a"))})
	refused(t, api.Dir{Now: entries(entry("b", 1)), Sure: entries(entry("b", 1), entry("a", 1)), Pend: ops(unlink("a"))})
	refused(t, api.Dir{Sure: entries(entry("b", 1), entry("a", 1)), Pend: ops(unlink("a"), unlink("b"))})
}

func TestPendThatCannotBePerformed(t *testing.T) {
	sure := entries(entry("b", 2), entry("e", 5))
	good := ops(link("f", 6), move("e", "g"), unlink("f"))
	now := afterAll(sure, good...)
	right(t, api.Dir{Now: now, Sure: sure, Pend: good}, true)
	for _, op := range wrongOps() {
		// Now is what the other operations leave: the wrong one is not ignored.
		refused(t, api.Dir{Now: sure, Sure: sure, Pend: ops(op)})
		for i := range len(good) + 1 {
			refused(t, api.Dir{Now: now, Sure: sure, Pend: slices.Insert(slices.Clone(good), i, op)})
		}
		// Nor is it performed, and neither is what comes before or after it.
		refused(t, api.Dir{Now: after(sure, op), Sure: sure, Pend: ops(op)})
		refused(t, api.Dir{Pend: ops(op)})
		refused(t, api.Dir{Now: after(nil, op), Pend: ops(op)})
		for i := range good {
			list := slices.Insert(slices.Clone(good), i, op)
			refused(t, api.Dir{Now: afterAll(sure, good[:i]...), Sure: sure, Pend: list})
			refused(t, api.Dir{Now: afterAll(sure, good[i:]...), Sure: sure, Pend: list})
			refused(t, api.Dir{Now: afterAll(sure, list...), Sure: sure, Pend: list})
		}
	}
	// What can be performed at its place only.
	for i := range 3 {
		refused(t, api.Dir{Now: now, Sure: sure, Pend: slices.Delete(slices.Clone(good), i, i+1)})
	}
	refused(t, api.Dir{Now: now, Sure: sure, Pend: ops(unlink("f"), link("f", 6), move("e", "g"))})
	refused(t, api.Dir{Now: now, Sure: sure, Pend: ops(link("f", 6), move("e", "g"), unlink("f"), unlink("f"))})
	refused(t, api.Dir{Now: now, Sure: sure, Pend: ops(link("f", 6), link("f", 6), move("e", "g"), unlink("f"))})
	refused(t, api.Dir{Now: now, Sure: sure, Pend: ops(link("f", 6), move("e", "g"), move("e", "g"), unlink("f"))})
	right(t, api.Dir{Now: now, Sure: sure, Pend: ops(move("e", "g"), link("f", 6), unlink("f"))}, true)
	right(t, api.Dir{Now: now, Sure: sure, Pend: ops(move("e", "g"))}, true)
}

func TestNowThatDiffers(t *testing.T) {
	for _, d := range several() {
		for i := range d.Now {
			if i > 3 && i < len(d.Now)-3 && i%20 != 0 {
				continue
			}
			for _, node := range []int{d.Now[i].Node + 1, d.Now[i].Node - 1, -d.Now[i].Node + 1000, d.Now[i].Node + 1<<32} {
				e := copied(d)
				e.Now[i].Node = node
				refused(t, e)
			}
			for _, name := range []string{d.Now[i].Name + ".", d.Now[i].Name[1:], "", "A"} {
				e := copied(d)
				e.Now[i].Name = name
				refused(t, e)
			}
			e := copied(d)
			e.Now = slices.Delete(e.Now, i, i+1)
			refused(t, e)
			e = copied(d)
			e.Now = slices.Insert(e.Now, i, d.Now[i])
			refused(t, e)
			if i > 0 {
				e = copied(d)
				e.Now[i], e.Now[i-1] = e.Now[i-1], e.Now[i]
				refused(t, e)
				refused(t, api.Dir{Now: d.Now[:i], Sure: d.Sure, Pend: d.Pend})
				refused(t, api.Dir{Now: d.Now[i:], Sure: d.Sure, Pend: d.Pend})
			}
		}
		for _, x := range entries(entry("zzz", 1), entry("zzz", 0), entry("", 0), entry("A", 1)) {
			refused(t, api.Dir{Now: append(slices.Clone(d.Now), x), Sure: d.Sure, Pend: d.Pend})
			refused(t, api.Dir{Now: append(entries(x), d.Now...), Sure: d.Sure, Pend: d.Pend})
		}
		if len(d.Now) > 0 {
			refused(t, api.Dir{Sure: d.Sure, Pend: d.Pend})
		}
		if !slices.Equal(d.Now, d.Sure) {
			refused(t, api.Dir{Now: d.Sure, Sure: d.Sure, Pend: d.Pend})
			refused(t, api.Dir{Now: d.Now, Sure: d.Sure})
		}
	}
}

func TestRoomBehindListsIsNotLookedAt(t *testing.T) {
	room, wrong := append(many(100), many(100)...), append(ops(link("a", 9)), wrongOps()...)
	right(t, api.Dir{Now: room[:2], Sure: room[:2]}, true)
	right(t, api.Dir{Now: room[:100], Sure: room[:100]}, true)
	right(t, api.Dir{Now: entries(entry("a", 9), room[0]), Sure: room[:1], Pend: wrong[:1]}, true)
	right(t, api.Dir{Now: room[:2], Sure: room[:2], Pend: wrong[1:1]}, true)
	refused(t, api.Dir{Now: room[:2], Sure: room[:3]})
	refused(t, api.Dir{Now: room[:101], Sure: room[:101]})
	finds(t, api.Dir{Now: room[:2]}, "m002", 0, false)
	finds(t, api.Dir{Now: room[:3]}, "m002", 3, true)
}

// Di1: Find.

func TestFind(t *testing.T) {
	for _, d := range several() {
		for _, e := range d.Now {
			finds(t, d, e.Name, e.Node, true)
			finds(t, d, e.Name+"0", 0, false)
			finds(t, d, strings.ToUpper(e.Name)+"X", 0, false)
		}
		for _, name := range append(wrongNames(), "y", "m", "m1000", "m0") {
			finds(t, d, name, 0, false)
		}
	}
	d := pending(entries(entry("a", 1), entry("b", 2), entry("c", 3)), unlink("a"), move("b", "d"), link("e", 5))
	finds(t, d, "a", 0, false) // of Now, not of Sure
	finds(t, d, "b", 0, false)
	finds(t, d, "c", 3, true)
	finds(t, d, "d", 2, true)
	finds(t, d, "e", 5, true)
	finds(t, synced(entry("a", 0)), "a", 0, true) // a node like another one
	finds(t, synced(entry("a", -1)), "a", -1, true)
	finds(t, api.Dir{}, "", 0, false)
}

func TestFindInInvalidDirectories(t *testing.T) {
	d := api.Dir{Now: entries(entry("b", 1), entry("a", 2), entry("b", 3), entry("", 4), entry("A", 5), entry("a", 6), entry("c", 7), entry("", 8), entry(".", 9))}
	finds(t, d, "b", 1, true) // the first one
	finds(t, d, "a", 2, true)
	finds(t, d, "c", 7, true) // in no order
	finds(t, d, ".", 9, true)
	finds(t, d, "", 4, true) // what is no name
	finds(t, d, "A", 5, true)
	finds(t, d, "B", 0, false)
	finds(t, api.Dir{Now: entries(entry("a", 0), entry("a", 1))}, "a", 0, true)
	finds(t, api.Dir{Sure: entries(entry("a", 1))}, "a", 0, false)
	finds(t, api.Dir{Pend: ops(link("a", 1))}, "a", 0, false)
	finds(t, api.Dir{Now: entries(entry("a", 1)), Pend: ops(unlink("a"))}, "a", 1, true)
	finds(t, api.Dir{Now: many(356)}, "m355", 356, true)
	finds(t, api.Dir{Now: entries(entry("a", 1), entry(longest+"a", 2))}, longest+"a", 2, true)
}

// Di2: Do.

func TestDo(t *testing.T) {
	a, b, c := entry("a", 1), entry("b", 2), entry("c", 3)
	for _, x := range []struct {
		sure []api.Entry
		pend []api.DirOp
		op   api.DirOp
		want []api.Entry
	}{
		{nil, nil, link("a", 1), entries(a)},
		{nil, nil, link(longest, 1), entries(entry(longest, 1))},
		{nil, nil, link(".", 0), entries(entry(".", 0))},
		{entries(b, c), nil, link("a", 1), entries(a, b, c)}, // first
		{entries(a, c), nil, link("b", 2), entries(a, b, c)}, // in the middle
		{entries(a, b), nil, link("c", 3), entries(a, b, c)}, // last
		{entries(a), nil, link("a.", 3), entries(a, entry("a.", 3))},
		{entries(a), nil, link("9", 3), entries(entry("9", 3), a)},
		{entries(a), nil, link("b", 1), entries(a, entry("b", 1))}, // a node that has a name
		{entries(a), ops(unlink("a")), link("a", 7), entries(entry("a", 7))},
		{entries(a), ops(move("a", "b")), link("a", 7), entries(entry("a", 7), entry("b", 1))},
		{entries(a), nil, move("a", "b"), entries(entry("b", 1))}, // to a new name
		{entries(b), nil, move("b", "a"), entries(entry("a", 2))},
		{entries(a), nil, move("a", longest), entries(entry(longest, 1))},
		{entries(a, b, c), nil, move("a", "d"), entries(b, c, entry("d", 1))}, // to the end
		{entries(a, b, c), nil, move("b", "d"), entries(a, c, entry("d", 2))},
		{entries(a, b, c), nil, move("c", "d"), entries(a, b, entry("d", 3))},
		{entries(a, b, c), nil, move("a", "0"), entries(entry("0", 1), b, c)}, // to the start
		{entries(a, b, c), nil, move("b", "0"), entries(entry("0", 2), a, c)},
		{entries(a, b, c), nil, move("c", "0"), entries(entry("0", 3), a, b)},
		{entries(a, b, c), nil, move("a", "b0"), entries(b, entry("b0", 1), c)}, // into the middle
		{entries(a, b, c), nil, move("b", "b0"), entries(a, entry("b0", 2), c)},
		{entries(a, b, c), nil, move("c", "b0"), entries(a, b, entry("b0", 3))},
		{entries(a, b, c), nil, move("a", "b"), entries(entry("b", 1), c)}, // over another one
		{entries(a, b, c), nil, move("a", "c"), entries(b, entry("c", 1))},
		{entries(a, b, c), nil, move("b", "a"), entries(entry("a", 2), c)},
		{entries(a, b, c), nil, move("b", "c"), entries(a, entry("c", 2))},
		{entries(a, b, c), nil, move("c", "a"), entries(entry("a", 3), b)},
		{entries(a, b, c), nil, move("c", "b"), entries(a, entry("b", 3))},
		{nil, ops(link("a", 1)), move("a", "b"), entries(entry("b", 1))},
		{entries(a), ops(move("a", "b")), move("b", "a"), entries(a)}, // back again
		{entries(a), nil, unlink("a"), nil},
		{entries(a, b, c), nil, unlink("a"), entries(b, c)},
		{entries(a, b, c), nil, unlink("b"), entries(a, c)},
		{entries(a, b, c), nil, unlink("c"), entries(a, b)},
		{nil, ops(link("a", 1)), unlink("a"), nil},
		{entries(a), ops(move("a", "b"), link("a", 9)), unlink("b"), entries(entry("a", 9))},
	} {
		d := pending(x.sure, x.pend...)
		does(t, d, x.op, x.want)
	}
}

func TestErrorsOfDo(t *testing.T) {
	d := pending(entries(entry("b", 2), entry("e", 5)), unlink("e"), link("f", 6))
	for _, x := range []struct {
		op   api.DirOp
		want api.Errno
	}{
		{link("b", 1), api.ErrThere},
		{link("f", 6), api.ErrThere}, // linked since
		{link("e", 1), api.OK},       // removed since
		{link("", 1), api.ErrArg},
		{link(longest+"a", 1), api.ErrArg},
		{link("B", 1), api.ErrArg},
		{move("a", "c"), api.ErrNone},
		{move("e", "c"), api.ErrNone},
		{move("", "c"), api.ErrNone}, // what is no name does not exist
		{move("B", "c"), api.ErrNone},
		{move("b", ""), api.ErrArg},
		{move("b", "B"), api.ErrArg},
		{move("b", longest+"a"), api.ErrArg},
		{move("b", "b"), api.ErrArg},
		{move("b", "f"), api.OK},
		{move("b", "e"), api.OK},
		{unlink("a"), api.ErrNone},
		{unlink("e"), api.ErrNone},
		{unlink(""), api.ErrNone},
		{unlink("B"), api.ErrNone},
		{unlink("f"), api.OK},
		// Several errors.
		{move("a", ""), api.ErrNone},
		{move("a", "a"), api.ErrNone},
		{move("", ""), api.ErrNone},
		{move("B", "B"), api.ErrNone},
		{api.DirOp{Kind: 0}, api.ErrKind},
		{api.DirOp{Kind: 4}, api.ErrKind},
		{api.DirOp{Kind: -1, Name: "b", To: "c"}, api.ErrKind},
		{api.DirOp{Kind: 0, Name: "b", To: "b"}, api.ErrKind},
		{api.DirOp{Kind: 4, Name: "", To: ""}, api.ErrKind},
		{api.DirOp{Kind: 0, Name: "c", To: "d", Node: 1}, api.ErrKind},
	} {
		if x.want != api.OK {
			fails(t, d, x.op, x.want)
		} else {
			does(t, d, x.op, after(d.Now, x.op))
		}
	}
	for _, d := range several() {
		for _, kind := range wrongKinds() {
			for _, op := range ops(link("a", 1), link("", 1), move("a", "b"), move("zz", ""), unlink("a"), api.DirOp{}) {
				op.Kind = kind
				fails(t, d, op, api.ErrKind)
			}
		}
		for _, name := range wrongNames() {
			fails(t, d, link(name, 1), api.ErrArg)
			fails(t, d, move(name, "zz"), api.ErrNone)
			fails(t, d, move("zz", name), api.ErrNone)
			fails(t, d, unlink(name), api.ErrNone)
		}
	}
}

func TestFullDirectories(t *testing.T) {
	d := does(t, synced(many(99)...), link("a", 7), append(entries(entry("a", 7)), many(99)...))
	for _, d := range []api.Dir{d, synced(many(100)...), dir.Sync(d), pending(many(100), unlink("m005"), link("m005", 1))} {
		last := d.Now[99].Name
		for _, name := range []string{"b", "m0000", "z", longest} {
			fails(t, d, link(name, 1), api.ErrFull)
		}
		for _, name := range wrongNames() {
			fails(t, d, link(name, 1), api.ErrArg) // named ahead of ErrFull
			fails(t, d, move("m002", name), api.ErrArg)
		}
		for _, e := range d.Now {
			fails(t, d, link(e.Name, 1), api.ErrThere)
			fails(t, d, move(e.Name, e.Name), api.ErrArg)
		}
		// A move needs no room, wherever it is to.
		for _, to := range []string{"b", "m0000", "z", "m001", last} {
			e := does(t, d, move("m003", to), after(d.Now, move("m003", to)))
			if len(e.Now) == 100 {
				fails(t, e, link("m003", 1), api.ErrFull)
			} else {
				does(t, e, link("m003", 1), after(e.Now, link("m003", 1)))
			}
		}
		e := does(t, d, unlink(last), d.Now[:99])
		e = does(t, e, link("z", 9), append(slices.Clone(d.Now[:99]), entry("z", 9)))
		fails(t, e, link("zz", 9), api.ErrFull)
		fails(t, e, unlink(last), api.ErrNone)
		fails(t, e, move(last, "zz"), api.ErrNone)
	}
	// From the empty directory on, in an order that is not that of the names.
	d = api.Dir{}
	for i := range 100 {
		e := many(100)[i*37%100]
		d = does(t, d, link(e.Name, e.Node), after(d.Now, link(e.Name, e.Node)))
	}
	if !slices.Equal(d.Now, many(100)) || len(d.Sure) != 0 || len(d.Pend) != 100 {
		t.Errorf("a hundred links leave %v", d)
	}
	fails(t, d, link("a", 1), api.ErrFull)
	fails(t, dir.Crash(d, 100), link("a", 1), api.ErrFull)
	does(t, dir.Crash(d, 99), link("a", 1), after(afterAll(nil, d.Pend[:99]...), link("a", 1)))
}

func TestFieldsThatAKindDoesNotUse(t *testing.T) {
	d := synced(entry("a", 1), entry("b", 2))
	for _, to := range append(wrongNames(), "a", "b", "c", "d") {
		for _, node := range []int{0, 1, 2, -1, math.MaxInt, math.MinInt} {
			does(t, d, api.DirOp{Kind: 1, Name: "c", To: to, Node: 3}, entries(entry("a", 1), entry("b", 2), entry("c", 3)))
			does(t, d, api.DirOp{Kind: 2, Name: "a", To: "c", Node: node}, entries(entry("b", 2), entry("c", 1)))
			does(t, d, api.DirOp{Kind: 2, Name: "a", To: "b", Node: node}, entries(entry("b", 1)))
			does(t, d, api.DirOp{Kind: 3, Name: "a", To: to, Node: node}, entries(entry("b", 2)))
			fails(t, d, api.DirOp{Kind: 1, Name: "a", To: to, Node: node}, api.ErrThere)
			fails(t, d, api.DirOp{Kind: 2, Name: "c", To: to, Node: node}, api.ErrNone)
			fails(t, d, api.DirOp{Kind: 3, Name: "c", To: to, Node: node}, api.ErrNone)
			// In Pend too.
			right(t, api.Dir{Sure: d.Sure, Pend: ops(api.DirOp{Kind: 3, Name: "a", To: to, Node: node}, api.DirOp{Kind: 3, Name: "b", To: to, Node: node})}, true)
			e := api.Dir{Now: entries(entry("c", 1)), Sure: d.Sure, Pend: ops(api.DirOp{Kind: 2, Name: "a", To: "c", Node: node}, api.DirOp{Kind: 3, Name: "b", To: to, Node: node})}
			right(t, e, true)
			crashes(t, e, 1, entries(entry("b", 2), entry("c", 1)))
		}
	}
}

func TestDoOfAllDirectories(t *testing.T) {
	var list []api.DirOp
	some := []string{"", ".", "a", "aa", "b", "c", "d", "m000", "m050", "m099", "n", "z", "A", longest}
	for kind := -1; kind <= 5; kind++ {
		for _, name := range some {
			for _, to := range some {
				list = append(list, api.DirOp{Kind: kind, Name: name, To: to, Node: 77})
			}
		}
	}
	for _, d := range several() {
		for _, op := range list {
			if err := errorOf(d.Now, op); err != api.OK {
				fails(t, d, op, err)
				right(t, api.Dir{Now: d.Now, Sure: d.Sure, Pend: slices.Concat(d.Pend, ops(op))}, false)
			} else {
				does(t, d, op, after(d.Now, op))
			}
		}
	}
}

// Di2: Sync.

func TestSync(t *testing.T) {
	for _, d := range several() {
		syncs(t, d, d.Now)
		syncs(t, dir.Sync(d), d.Now)
		right(t, dir.Sync(d), true)
	}
	syncs(t, api.Dir{}, nil)
	syncs(t, synced(entry("a", 1)), entries(entry("a", 1)))
	syncs(t, pending(nil, link("a", 1), move("a", "b")), entries(entry("b", 1)))
	syncs(t, pending(entries(entry("a", 1)), unlink("a")), nil)
	syncs(t, pending(entries(entry("a", 1)), link("b", 2)), entries(entry("a", 1), entry("b", 2)))
}

// Di3.

func TestCrash(t *testing.T) {
	a, b := entry("a", 1), entry("b", 2)
	for _, x := range []struct {
		sure []api.Entry
		pend []api.DirOp
		n    int
		want []api.Entry
	}{
		{nil, nil, 0, nil},
		{nil, nil, 1, nil},
		{nil, nil, -1, nil},
		{entries(a), nil, 0, entries(a)},
		{entries(a), nil, 5, entries(a)},
		{nil, ops(link("a", 1), move("a", "b")), 1, entries(a)}, // the chapter's example
		{nil, ops(link("a", 1), move("a", "b")), 0, nil},
		{nil, ops(link("a", 1), move("a", "b")), -1, nil},
		{nil, ops(link("a", 1), move("a", "b")), math.MinInt, nil},
		{nil, ops(link("a", 1), move("a", "b")), 2, entries(entry("b", 1))},
		{nil, ops(link("a", 1), move("a", "b")), 3, entries(entry("b", 1))},
		{nil, ops(link("a", 1), move("a", "b")), math.MaxInt, entries(entry("b", 1))},
		{entries(a, b), ops(move("a", "b"), link("a", 3), unlink("b")), -1, entries(a, b)},
		{entries(a, b), ops(move("a", "b"), link("a", 3), unlink("b")), 0, entries(a, b)},
		{entries(a, b), ops(move("a", "b"), link("a", 3), unlink("b")), 1, entries(entry("b", 1))},
		{entries(a, b), ops(move("a", "b"), link("a", 3), unlink("b")), 2, entries(entry("a", 3), entry("b", 1))},
		{entries(a, b), ops(move("a", "b"), link("a", 3), unlink("b")), 3, entries(entry("a", 3))},
		{entries(a, b), ops(move("a", "b"), link("a", 3), unlink("b")), 4, entries(entry("a", 3))},
		{entries(a), ops(unlink("a"), link("a", 1)), 1, nil},
		{entries(a), ops(unlink("a"), link("a", 7)), 2, entries(entry("a", 7))},
	} {
		d := pending(x.sure, x.pend...)
		crashes(t, d, x.n, x.want)
		right(t, dir.Crash(d, x.n), true)
	}
}

func TestCrashOfAllDirectories(t *testing.T) {
	for _, d := range several() {
		for n := -3; n <= len(d.Pend)+3; n++ {
			crashes(t, d, n, afterAll(d.Sure, d.Pend[:min(max(n, 0), len(d.Pend))]...))
			// What a crash left is synced: another one leaves it as it is.
			e := dir.Crash(d, n)
			crashes(t, e, 0, e.Now)
			crashes(t, e, 9, e.Now)
		}
		for _, n := range []int{math.MinInt, math.MinInt + 1, -1 << 32, -1 << 31} {
			crashes(t, d, n, d.Sure)
		}
		for _, n := range []int{math.MaxInt, math.MaxInt - 1, 1 << 32, 1<<31 - 1, len(d.Pend)} {
			crashes(t, d, n, d.Now)
		}
	}
}

// Di4.

// someName returns a name that is likely to be used again.
func someName(dice *rand.Rand) string { return string(rune('a' + dice.IntN(6))) }

// someOp returns an operation, most often one that can be performed.
func someOp(dice *rand.Rand, l []api.Entry) api.DirOp {
	op := api.DirOp{Kind: 1 + dice.IntN(3), Name: someName(dice), To: someName(dice), Node: dice.IntN(100)}
	if op.Kind != api.OpLink && len(l) > 0 && dice.IntN(4) > 0 {
		op.Name = l[dice.IntN(len(l))].Name
	}
	return op
}

// touches reports whether one of several operations has to do with a name.
func touches(list []api.DirOp, name string) bool {
	return slices.ContainsFunc(list, func(op api.DirOp) bool {
		return op.Name == name || op.Kind == api.OpMove && op.To == name
	})
}

func TestSyncedEntriesSurvive(t *testing.T) {
	dice := rand.New(rand.NewPCG(10, 4))
	kept := 0
	for range 500 {
		d := api.Dir{}
		for i := range 20 {
			// Few operations after the sync: most entries are to be left alone.
			if i == 17 {
				d = dir.Sync(d)
			}
			if e, err := dir.Do(d, someOp(dice, d.Now)); err == api.OK {
				d = e
			}
		}
		for n := -1; n <= len(d.Pend)+1; n++ {
			left := dir.Crash(d, n)
			for _, e := range d.Sure {
				if !touches(d.Pend, e.Name) {
					kept++
					finds(t, left, e.Name, e.Node, true)
				}
			}
			// Nor is there a name that nobody gave.
			for _, e := range left.Now {
				if !slices.Contains(d.Sure, e) && !touches(d.Pend, e.Name) {
					t.Errorf("Crash(%v, %d) made %v", d, n, e)
				}
			}
		}
	}
	if kept < 1000 {
		t.Errorf("only %d entries had to survive", kept)
	}
}

func TestAMoveIsPerformedOrNot(t *testing.T) {
	names := []string{"a", "b", "c", "m000", "m049", "m098", "x", "."}
	for _, sure := range [][]api.Entry{entries(entry("b", 500)), entries(entry("a", 7), entry("b", 500), entry("c", 9)), after(many(99), link("b", 500)), many(99), many(100)} {
		for _, name := range names {
			node, ok := dir.Find(synced(sure...), name)
			for _, to := range names {
				if !ok || name == to {
					continue
				}
				d, err := dir.Do(synced(sure...), move(name, to))
				if err != api.OK {
					t.Fatalf("Do(move %s to %s) = %d", name, to, err)
				}
				for n := -1; n <= 2; n++ {
					left := dir.Crash(d, n)
					var has []string
					for _, e := range left.Now {
						if e.Node == node {
							has = append(has, e.Name)
						}
					}
					want := []string{name}
					if n > 0 {
						want = []string{to}
					}
					if !slices.Equal(has, want) {
						t.Errorf("after a crash with %d, what was moved from %s to %s has the names %v", n, name, to, has)
					}
					// The name that it was moved to still has its node, unless the move was performed.
					old, was := dir.Find(synced(sure...), to)
					if n > 0 {
						old, was = node, true
					}
					finds(t, left, to, old, was)
				}
			}
		}
	}
}

func TestManySteps(t *testing.T) {
	dice := rand.New(rand.NewPCG(10, 5))
	for range 300 {
		var d, want api.Dir
		for range 40 {
			switch dice.IntN(10) {
			case 0:
				d, want = dir.Sync(d), synced(want.Now...)
			case 1:
				n := dice.IntN(len(want.Pend)+3) - 1
				d, want = dir.Crash(d, n), synced(afterAll(want.Sure, want.Pend[:min(max(n, 0), len(want.Pend))]...)...)
			default:
				op := someOp(dice, want.Now)
				e, err := dir.Do(d, op)
				if err != errorOf(want.Now, op) {
					t.Fatalf("Do(%v, %v) = %v, %d", d, op, e, err)
				}
				if err == api.OK {
					d, want = e, api.Dir{Now: after(want.Now, op), Sure: want.Sure, Pend: slices.Concat(want.Pend, ops(op))}
				}
			}
			right(t, d, true)
			if !same(d, want) {
				t.Fatalf("a directory is %v, want %v", d, want)
			}
		}
	}
}

// R3 and R4.

// roomy returns d with room behind each of its lists, and a function that reports whether any of it was changed.
func roomy(d api.Dir) (api.Dir, func() bool) {
	whole := api.Dir{
		Now:  slices.Concat(d.Now, entries(entry("x1", 201), entry("x2", 202), entry("x3", 203))),
		Sure: slices.Concat(d.Sure, entries(entry("x1", 201), entry("x2", 202), entry("x3", 203))),
		Pend: slices.Concat(d.Pend, ops(link("x1", 201), link("x2", 202), link("x3", 203))),
	}
	keep := copied(whole)
	cut := api.Dir{Now: whole.Now[:len(d.Now)], Sure: whole.Sure[:len(d.Sure)], Pend: whole.Pend[:len(d.Pend)]}
	return cut, func() bool { return !same(whole, keep) }
}

// spoil overwrites all memory of a directory, and that behind its lists.
func spoil(d api.Dir) {
	for _, l := range [][]api.Entry{d.Now, d.Sure} {
		wipe(l)
	}
	for i := range d.Pend[:cap(d.Pend)] {
		d.Pend[:cap(d.Pend)][i] = link("spoilt", 99)
	}
}

// wipe overwrites all entries of l, and those behind it.
func wipe(l []api.Entry) {
	for i := range l[:cap(l)] {
		l[:cap(l)][i] = entry("spoilt", 99)
	}
}

// results are what the functions return for d, one after the other.
func results(d api.Dir) []api.Dir {
	var l []api.Dir
	for _, op := range ops(link("bb", 1), link("zz", 1), link("", 1), move("a", "bb"), move("b", "a"), move("c", "."), move("m050", "m051"), unlink("a"), unlink("b"), unlink("m050")) {
		e, _ := dir.Do(d, op)
		l = append(l, e)
	}
	return append(l, dir.Sync(d), dir.Crash(d, -1), dir.Crash(d, 0), dir.Crash(d, 1), dir.Crash(d, 2), dir.Crash(d, len(d.Pend)), dir.Crash(d, 1000))
}

// invalid are directories that are not valid.
func invalid() []api.Dir {
	return []api.Dir{
		synced(many(101)...),
		synced(entry("b", 1), entry("a", 2), entry("b", 3)),
		synced(entry("A", 1)),
		{Now: entries(entry("a", 1))},
		{Now: entries(entry("a", 1)), Sure: entries(entry("a", 1)), Pend: wrongOps()},
		{Sure: entries(entry("a", 1), entry("b", 2)), Pend: ops(unlink("a"), move("b", "a"), unlink("b"))},
	}
}

func TestNoArgumentIsChanged(t *testing.T) {
	for _, d := range append(several(), invalid()...) {
		e, changed := roomy(d)
		first, valid := results(e), dir.Right(e)
		finds(t, e, "zzz", 0, false)
		second := results(e)
		for i := range first {
			if !same(first[i], second[i]) || valid != dir.Right(e) {
				t.Errorf("a second call returns something else: %v, %v", first[i], second[i])
			}
		}
		if changed() || !same(d, e) {
			t.Errorf("the argument %v was changed to %v", d, e)
		}
	}
}

func TestResultsAreNewMemory(t *testing.T) {
	for _, d := range several() {
		for i := range results(d) {
			e, changed := roomy(d)
			want := copied(results(d)[i])
			spoil(results(e)[i])
			// Neither the argument nor a later result has memory of the one that is no more.
			if changed() {
				t.Errorf("result %d for %v shares memory with the argument", i, d)
			}
			next := results(e)[i]
			spoil(e)
			if !same(next, want) {
				t.Errorf("result %d for %v changes with the argument: %v, want %v", i, d, next, want)
			}
		}
	}
}

func TestListsOfOneResultShareNothing(t *testing.T) {
	for _, d := range several() {
		for i, e := range results(d) {
			before := copied(e)
			wipe(e.Now)
			if !slices.Equal(e.Sure, before.Sure) {
				t.Errorf("Now and Sure of result %d for %v share memory", i, d)
			}
			e = results(d)[i]
			wipe(e.Sure)
			if !slices.Equal(e.Now, before.Now) {
				t.Errorf("Sure and Now of result %d for %v share memory", i, d)
			}
		}
	}
}

func TestTwoOperationsOnOneDirectory(t *testing.T) {
	// Neither is seen in the other, however many there were before.
	d := synced(entry("m", 1))
	for i := range 20 {
		name := string(rune('a' + i))
		if name == "m" {
			continue
		}
		one, _ := dir.Do(d, link(name, 250))
		two, _ := dir.Do(d, link(name, 251))
		for x, e := range []api.Dir{one, two} {
			want := api.Dir{Now: after(d.Now, link(name, 250+x)), Sure: d.Sure, Pend: slices.Concat(d.Pend, ops(link(name, 250+x)))}
			if !same(e, want) || !dir.Right(e) {
				t.Errorf("of two operations one left %v, want %v", e, want)
			}
		}
		d = two
	}
}

// opFrom returns an operation that is made of the first bytes of b, and the other bytes.
func opFrom(b []byte) (api.DirOp, []byte) {
	some := []string{"a", "b", "c", "aa", ".", "0", longest, "", "A", "a b", longest + "a"}
	op := api.DirOp{Kind: int(b[0]%8) - 1, Name: some[int(b[1])%len(some)], To: some[int(b[2])%len(some)], Node: int(int8(b[3]))}
	return op, b[4:]
}

func FuzzDir(f *testing.F) {
	f.Add("a", []byte{2, 0, 0, 7, 3, 0, 1, 0, 4, 1, 0, 0}, 1)
	f.Add("", []byte{2, 7, 0, 7, 0, 0, 0, 0, 2, 0, 0, 1, 2, 0, 0, 1}, -1)
	f.Add("p1.0", []byte{2, 0, 0, 7, 2, 1, 0, 8, 2, 2, 0, 9, 3, 0, 1, 0, 3, 1, 1, 0, 4, 9, 9, 9}, math.MaxInt)
	f.Add(longest, []byte{2, 6, 0, 7, 3, 6, 10, 8, 3, 6, 4, 9}, math.MinInt)
	f.Fuzz(func(t *testing.T, name string, b []byte, n int) {
		names(t, name, called(name))
		d := api.Dir{}
		for len(b) >= 4 {
			var op api.DirOp
			op, b = opFrom(b)
			if err := errorOf(d.Now, op); err != api.OK {
				fails(t, d, op, err)
				refused(t, api.Dir{Now: d.Now, Sure: d.Sure, Pend: slices.Concat(d.Pend, ops(op))})
			} else {
				d = does(t, d, op, after(d.Now, op))
			}
			if len(b)%7 == 0 {
				syncs(t, d, d.Now)
				d = dir.Sync(d)
			}
		}
		crashes(t, d, n, afterAll(d.Sure, d.Pend[:min(max(n, 0), len(d.Pend))]...))
		// Any text as a name.
		op := link(name, n)
		if err := errorOf(d.Now, op); err != api.OK {
			fails(t, d, op, err)
		} else {
			finds(t, does(t, d, op, after(d.Now, op)), name, n, true)
		}
		right(t, synced(entry(name, n)), called(name))
		finds(t, synced(entry(name, n)), name, n, true)
		// What no call returned: the operations with another first one.
		if len(d.Pend) > 1 && errorOf(d.Sure, d.Pend[1]) != api.OK {
			refused(t, api.Dir{Now: d.Now, Sure: d.Sure, Pend: d.Pend[1:]})
		}
	})
}
