package change_test

import (
	"bytes"
	"reflect"
	"slices"
	"strings"
	"testing"

	"newsreel/api"
	"newsreel/change"
)

// hash is that of no bytes.
const hash = "e3b0c44298fc1c149afbf4c8996fb92427ae41e4649b934ca495991b7852b855"

// long returns a text of n bytes.
func long(n int) string { return strings.Repeat("x", n) }

// The changes, one function a kind.
func setFeed(f api.Feed) api.Change     { return api.Change{Kind: 1, Feed: f} }
func drop(n int64) api.Change           { return api.Change{Kind: 2, N: n} }
func setEp(x api.Ep) api.Change         { return api.Change{Kind: 3, Ep: x} }
func keep(n int64) api.Change           { return api.Change{Kind: 4, N: n} }
func quota(n int64) api.Change          { return api.Change{Kind: 5, N: n} }
func ids(n, m int64) api.Change         { return api.Change{Kind: 6, N: n, M: m} }
func list(l ...api.Change) []api.Change { return l }

// feed is a valid one with few fields; its URL tells it from others.
func feed(id int, url string) api.Feed { return api.Feed{Id: id, Url: url} }

// ep is a valid episode with few fields.
func ep(id, feed int, guid string) api.Ep {
	return api.Ep{Id: id, Feed: feed, Guid: guid, Url: "u", St: 1}
}

// fullFeed is a valid feed, no two fields of which have the same value.
func fullFeed(id int) api.Feed {
	return api.Feed{Id: id, Url: "http://f/a", Tag: "\"t\"", Next: 1014, Fails: 1015}
}

// fullEp is a valid episode, no two fields of which have the same value.
func fullEp(id, feed int) api.Ep {
	return api.Ep{
		Id: id, Feed: feed, Guid: "guid", Url: "http://f/b", Title: "title", Date: -1026, Long: 1027, St: 3,
		Pinned: true, Pos: 1031, Tries: 1032, Next: 1033, Cur: "http://g/c", Hops: 2, Gen: 1036, Tag: "\"u\"", Total: 1038,
		Size: 1039, Sha: hash,
	}
}

// full is a valid state of three feeds and five episodes, one of them of a feed that is not there, two with one Guid.
func full() api.State {
	return api.State{
		Keep: 7, Quota: 5000, NextFeed: 9, NextEp: 41,
		Feeds: []api.Feed{feed(2, "two"), fullFeed(5), feed(8, "eight")},
		Eps:   []api.Ep{ep(3, 2, "a"), ep(4, 2, "b"), ep(6, 5, "a"), fullEp(30, 8), ep(31, 7, "c")},
	}
}

// crowd is a valid state with as many feeds and episodes as there may be, numbered 10, 20, 30 and so on.
func crowd() api.State {
	s := api.State{Keep: 1, Quota: 0, NextFeed: 50, NextEp: 310}
	for i := 1; i <= 4; i++ {
		s.Feeds = append(s.Feeds, feed(10*i, "f"))
	}
	for i := 1; i <= 30; i++ {
		s.Eps = append(s.Eps, ep(10*i, 1+i%49, "g"))
	}
	return s
}

// brim is a valid state with the greatest numbers and the longest texts that there may be.
func brim() api.State {
	f := api.Feed{Id: 1048576, Url: long(200), Tag: long(200), Next: 1099511627776, Fails: 1048576}
	x := api.Ep{
		Id: 1048576, Feed: 1048576, Guid: long(200), Url: long(200), Title: long(200), Date: 1099511627776, Long: 1099511627776,
		St: 3, Pos: 1099511627776, Tries: 1048576, Next: 1099511627776, Cur: long(200), Hops: 3, Gen: 1048576, Tag: long(200),
		Total: 1099511627776, Size: 65536, Sha: hash,
	}
	return api.State{Keep: 100, Quota: 1099511627776, NextFeed: 1048577, NextEp: 1048577, Feeds: []api.Feed{f}, Eps: []api.Ep{x}}
}

// states are valid ones.
func states() []api.State {
	return []api.State{change.Start(), full(), crowd(), brim(), {Keep: 1, NextFeed: 1, NextEp: 5}, {Keep: 1, NextFeed: 5, NextEp: 1}}
}

// changes are valid ones, of every kind.
func changes() []api.Change {
	return list(setFeed(feed(1, "u")), setFeed(fullFeed(6)), drop(1), drop(1048576), setEp(ep(1, 1, "g")), setEp(fullEp(1048576, 9)),
		keep(1), keep(100), quota(0), quota(1099511627776), ids(1, 1), ids(1048577, 1048577), ids(3, 1), ids(1, 3))
}

// copyOf returns a state that shares nothing with s.
func copyOf(s api.State) api.State {
	s.Feeds, s.Eps = slices.Clone(s.Feeds), slices.Clone(s.Eps)
	return s
}

// equal compares two states without the package's help.
func equal(a, b api.State) bool {
	return reflect.DeepEqual(normal(a), normal(b))
}

// normal returns a state with nil in place of empty lists.
func normal(s api.State) api.State {
	s.Feeds, s.Eps = append([]api.Feed(nil), s.Feeds...), append([]api.Ep(nil), s.Eps...)
	return s
}

// brief tells of a state what fits on a line.
func brief(s api.State) []any {
	l := []any{"keep", s.Keep, "quota", s.Quota, "next", s.NextFeed, s.NextEp, "feeds"}
	for _, f := range s.Feeds[:min(len(s.Feeds), 5)] {
		l = append(l, f.Id)
	}
	l = append(l, "eps")
	for _, x := range s.Eps[:min(len(s.Eps), 31)] {
		l = append(l, x.Id)
	}
	return l
}

// short tells of changes what fits on a line.
func short(l []api.Change) []any {
	var out []any
	for _, c := range l[:min(len(l), 10)] {
		out = append(out, []int64{int64(c.Kind), int64(c.Feed.Id), int64(c.Ep.Id), c.N, c.M})
	}
	return out
}

// start tells the beginning of bytes.
func start(b []byte) []byte { return b[:min(len(b), 24)] }

// applied fails the test unless s after l is want, and l and s are as before.
func applied(t *testing.T, s api.State, l []api.Change, want api.State) {
	t.Helper()
	state, changes := copyOf(s), slices.Clone(l)
	got, err := change.Apply(s, l)
	if err != api.OK || !equal(got, want) {
		t.Errorf("Apply(%v, %v) = %v, %d, want %v", brief(state), short(changes), brief(got), err, brief(want))
	}
	if !equal(s, state) || !slices.Equal(l, changes) {
		t.Errorf("Apply(%v, %v) changes its arguments to %v, %v", brief(state), short(changes), brief(s), short(l))
	}
}

// refused fails the test unless Apply returns this error, and nothing beside it.
func refused(t *testing.T, s api.State, l []api.Change, want api.Errno) {
	t.Helper()
	state, changes := copyOf(s), slices.Clone(l)
	got, err := change.Apply(s, l)
	if err != want || !equal(got, api.State{}) {
		t.Errorf("Apply(%v, %v) = %v, %d, want %d", brief(state), short(changes), brief(got), err, want)
	}
	if !equal(s, state) || !slices.Equal(l, changes) {
		t.Errorf("Apply(%v, %v) changes its arguments to %v, %v", brief(state), short(changes), brief(s), short(l))
	}
}

// coded fails the test unless changes have these bytes, and are what the bytes are taken for.
func coded(t *testing.T, l []api.Change, b []byte) {
	t.Helper()
	if got, err := change.Put(l); err != api.OK || !bytes.Equal(got, b) {
		t.Errorf("Put(%v) = %v, %d, want %v", short(l), start(got), err, start(b))
	}
	if got, err := change.Take(b); err != api.OK || !slices.Equal(got, l) {
		t.Errorf("Take(%v) = %v, %d, want %v", start(b), short(got), err, short(l))
	}
}

// noTake fails the test unless Take returns this error for b, and nothing beside it.
func noTake(t *testing.T, b []byte, want api.Errno) {
	t.Helper()
	if got, err := change.Take(b); err != want || len(got) != 0 {
		t.Errorf("Take(%v) = %v, %d, want %d", start(b), short(got), err, want)
	}
}

// Ch1: what is written out.

func TestStart(t *testing.T) {
	want := api.State{Keep: 5, Quota: 4096, NextFeed: 1, NextEp: 1}
	if got := change.Start(); !equal(got, want) {
		t.Errorf("Start() = %v", brief(got))
	}
	rightState(t, want)
}

// Ch2: what is written out.

func TestExample(t *testing.T) {
	applied(t, change.Start(), list(keep(7)), api.State{Keep: 7, Quota: 4096, NextFeed: 1, NextEp: 1})
}

func TestEachKindAlone(t *testing.T) {
	s := full()
	applied(t, s, nil, full())
	applied(t, s, []api.Change{}, full())

	want := full()
	want.Keep = 100
	applied(t, s, list(keep(100)), want)

	want = full()
	want.Quota = 0
	applied(t, s, list(quota(0)), want)

	want = full()
	want.NextFeed, want.NextEp = 10, 42
	applied(t, s, list(ids(10, 42)), want)

	want = full()
	want.Feeds = []api.Feed{feed(2, "two"), feed(8, "eight")}
	applied(t, s, list(drop(5)), want)

	want = full()
	want.Feeds = []api.Feed{feed(2, "two"), fullFeed(5), feed(6, "six"), feed(8, "eight")}
	applied(t, s, list(setFeed(feed(6, "six"))), want)

	want = full()
	want.Eps = []api.Ep{ep(3, 2, "a"), ep(4, 2, "b"), ep(5, 1, "a"), ep(6, 5, "a"), fullEp(30, 8), ep(31, 7, "c")}
	applied(t, s, list(setEp(ep(5, 1, "a"))), want)
}

func TestChangesOneAfterTheOther(t *testing.T) {
	l := list(setFeed(feed(1, "old")), keep(3), setEp(ep(2, 1, "b")), quota(10), setEp(ep(1, 1, "a")), setFeed(feed(1, "new")),
		keep(4), drop(7), ids(1, 9), quota(11), setFeed(feed(3, "three")), drop(3))
	applied(t, change.Start(), l, api.State{
		Keep: 4, Quota: 11, NextFeed: 4, NextEp: 9,
		Feeds: []api.Feed{feed(1, "new")},
		Eps:   []api.Ep{ep(1, 1, "a"), ep(2, 1, "b")},
	})
}

// Ch3: what is written out.

func TestBytesOfEachKind(t *testing.T) {
	coded(t, nil, nil)
	coded(t, list(keep(7)), []byte{2, 2, 4, 'k', 'e', 'e', 'p', 1, 14})
	coded(t, list(drop(1)), []byte{2, 2, 4, 'd', 'r', 'o', 'p', 1, 2})
	coded(t, list(quota(4096)), []byte{2, 2, 5, 'q', 'u', 'o', 't', 'a', 1, 128, 64})
	coded(t, list(ids(2, 64)), []byte{3, 2, 3, 'i', 'd', 's', 1, 4, 1, 128, 1})
	coded(t, list(setFeed(api.Feed{Id: 1, Url: "u", Tag: "t", Next: 2, Fails: 3})), []byte{6, 2, 4, 'f', 'e', 'e', 'd', 1, 2, 2, 1, 'u', 2, 1, 't', 1, 4, 1, 6})
	coded(t, list(setEp(api.Ep{Id: 1, Feed: 2, Guid: "g", Url: "u", Title: "t", Date: -1, Long: -1, St: 4, Why: 2, Pinned: true, Pos: 5, Tries: 6, Next: 7, Cur: "c", Hops: 3, Gen: 8, Tag: "w", Total: -1})), []byte{
		21, 2, 2, 'e', 'p', 1, 2, 1, 4, 2, 1, 'g', 2, 1, 'u', 2, 1, 't', 1, 1, 1, 1, 1, 8, 1, 4, 1, 2, 1, 10, 1, 12, 1, 14,
		2, 1, 'c', 1, 6, 1, 16, 2, 1, 'w', 1, 1, 1, 0, 2, 0,
	})
}

func TestBytesOfSeveral(t *testing.T) {
	coded(t, list(keep(7), keep(7), ids(1, 1), quota(0)), []byte{
		2, 2, 4, 'k', 'e', 'e', 'p', 1, 14,
		2, 2, 4, 'k', 'e', 'e', 'p', 1, 14,
		3, 2, 3, 'i', 'd', 's', 1, 2, 1, 2,
		2, 2, 5, 'q', 'u', 'o', 't', 'a', 1, 0,
	})
}

func TestWhole(t *testing.T) {
	for _, example := range []struct {
		s    api.State
		want []api.Change
	}{
		{change.Start(), list(keep(5), quota(4096), ids(1, 1))},
		{full(), list(keep(7), quota(5000), ids(9, 41),
			setFeed(feed(2, "two")), setFeed(fullFeed(5)), setFeed(feed(8, "eight")),
			setEp(ep(3, 2, "a")), setEp(ep(4, 2, "b")), setEp(ep(6, 5, "a")), setEp(fullEp(30, 8)), setEp(ep(31, 7, "c")))},
		{api.State{}, nil},
	} {
		if got := change.Whole(example.s); !slices.Equal(got, example.want) {
			t.Errorf("Whole(%v) = %v, want %v", brief(example.s), short(got), short(example.want))
		}
	}
}

// R3 and R4: arguments and results.

func TestResultsOfApplyAreNewMemory(t *testing.T) {
	for _, l := range [][]api.Change{nil, list(keep(2)), list(drop(5)), list(drop(6)), list(setFeed(feed(5, "x"))), list(setEp(ep(31, 7, "x"))), list(setFeed(feed(9, "x")), setEp(ep(50, 1, "x")))} {
		s := full()
		first, err := change.Apply(s, l)
		second, again := change.Apply(s, l)
		if err != api.OK || again != api.OK {
			t.Fatalf("Apply = %d, %d", err, again)
		}
		kept := copyOf(second)
		clear(first.Feeds[:cap(first.Feeds)])
		clear(first.Eps[:cap(first.Eps)])
		if !equal(s, full()) || !equal(second, kept) {
			t.Errorf("Apply(full, %v) shares memory", short(l))
		}
		clear(s.Feeds)
		clear(s.Eps)
		if !equal(second, kept) {
			t.Errorf("Apply(full, %v) keeps its argument", short(l))
		}
	}
}

func TestMemoryBehindArguments(t *testing.T) {
	// A list may have room behind it that belongs to somebody else.
	s := full()
	memory := copyOf(s)
	memory.Feeds = append(memory.Feeds, feed(77, "behind"), feed(78, "behind"))
	memory.Eps = append(memory.Eps, ep(77, 1, "behind"), ep(78, 1, "behind"))
	changes := append(changes(), keep(101))
	before, l := copyOf(memory), slices.Clone(changes)
	s.Feeds, s.Eps = memory.Feeds[:3], memory.Eps[:5]
	for _, c := range list(keep(2), drop(2), drop(8), setFeed(feed(1, "x")), setFeed(feed(2, "x")), setFeed(feed(9, "x")), setEp(ep(1, 1, "x")), setEp(ep(3, 2, "x")), setEp(ep(50, 1, "x"))) {
		if _, err := change.Apply(s, list(c)); err != api.OK {
			t.Fatalf("Apply(full, %v) = %d", short(list(c)), err)
		}
	}
	change.Apply(s, changes[:len(l)-1])
	change.Apply(s, changes)
	change.Put(changes[:len(l)-1])
	change.Put(changes)
	change.Whole(s)
	change.Right(s)
	change.Same(s, memory)
	change.Find(s, 6)
	change.Feed(s, 5)
	if !equal(memory, before) || !slices.Equal(changes, l) {
		t.Errorf("arguments become %v, %v", brief(memory), short(changes))
	}
}

func TestBytesAreNewMemory(t *testing.T) {
	l := changes()
	b, _ := change.Put(l)
	other, _ := change.Put(l)
	kept := slices.Clone(b)
	memory := append(slices.Clone(b), 7, 7)
	first, _ := change.Take(memory[:len(b)])
	second, err := change.Take(b)
	clear(b[:cap(b)])
	clear(first[:cap(first)])
	if !bytes.Equal(other, kept) || err != api.OK || !slices.Equal(second, changes()) || !slices.Equal(l, changes()) {
		t.Error("Put or Take shares memory")
	}
	if !bytes.Equal(memory, append(kept, 7, 7)) {
		t.Error("Take changes its argument")
	}
}

func TestWholeIsNewMemory(t *testing.T) {
	s := full()
	l := change.Whole(s)
	other := change.Whole(s)
	clear(l[:cap(l)])
	if !equal(s, full()) || !slices.Equal(other, change.Whole(full())) {
		t.Error("Whole shares memory")
	}
}
