package change_test

import (
	"math/rand"
	"reflect"
	"slices"
	"testing"

	"newsreel/api"
	"newsreel/change"
)

// noPut fails the test unless Put returns ErrArg, and nothing beside it.
func noPut(t *testing.T, l []api.Change) {
	t.Helper()
	if got, err := change.Put(l); err != api.ErrArg || len(got) != 0 {
		t.Errorf("Put(%v) = %v, %d, want ErrArg", short(l), start(got), err)
	}
}

// rightChange fails the test unless c is valid, for every function that asks it.
func rightChange(t *testing.T, c api.Change) {
	t.Helper()
	if !change.May(c) {
		t.Errorf("May(%v) = false", short(list(c)))
	}
	b := twinBytes(list(c))
	coded(t, list(c), b)
	coded(t, list(c, keep(1), c), append(append(slices.Clone(b), twinBytes(list(keep(1)))...), b...))
	// An episode needs a feed that there may be.
	if want, err := twinApply(change.Start(), list(c, ids(1048577, 1048577))); err == api.OK {
		applied(t, change.Start(), list(c, ids(1048577, 1048577)), want)
	} else {
		t.Errorf("%v is not even valid after the chapter's words", short(list(c)))
	}
}

// wrongChange fails the test unless c is not valid, at any place of a list, whatever the others are.
func wrongChange(t *testing.T, c api.Change) {
	t.Helper()
	if change.May(c) {
		t.Errorf("May(%v) = true", short(list(c)))
	}
	for _, l := range [][]api.Change{{c}, {keep(1), c}, {c, keep(1)}, {keep(1), c, quota(1)}, {c, c}} {
		refused(t, change.Start(), l, api.ErrArg)
		refused(t, full(), l, api.ErrArg)
		refused(t, api.State{}, l, api.ErrState)
		noPut(t, l)
	}
}

// Ch1: valid changes.

func TestValidChanges(t *testing.T) {
	for _, c := range changes() {
		rightChange(t, c)
	}
}

func TestKinds(t *testing.T) {
	for _, kind := range append(far(), append(narrow(), -2, -1, 0, 7, 8, 255, 256, 257)...) {
		wrongChange(t, api.Change{Kind: int(kind)})
		wrongChange(t, api.Change{Kind: int(kind), N: 1})
		for _, c := range changes() {
			c.Kind = int(kind)
			wrongChange(t, c)
		}
	}
	for kind := 1; kind <= 6; kind++ {
		if kind != 5 {
			wrongChange(t, api.Change{Kind: kind})
		}
		for _, c := range changes() {
			was := c.Kind
			c.Kind = kind
			if twinMay(c) {
				rightChange(t, c)
			} else {
				wrongChange(t, c)
			}
			if numbered := was != 1 && was != 3 && kind != 1 && kind != 3; !numbered && kind != was && twinMay(c) {
				t.Errorf("%v is valid after the chapter's words", short(list(c)))
			}
		}
	}
}

func TestBoundsOfChanges(t *testing.T) {
	for _, bounds := range []struct {
		make   func(int64) api.Change
		lo, hi int64
	}{
		{drop, 1, 1048576},
		{keep, 1, 100},
		{quota, 0, 1099511627776},
		{func(n int64) api.Change { return ids(n, 1) }, 1, 1048577},
		{func(n int64) api.Change { return ids(n, 1048577) }, 1, 1048577},
		{func(n int64) api.Change { return ids(1, n) }, 1, 1048577},
		{func(n int64) api.Change { return ids(1048577, n) }, 1, 1048577},
	} {
		for _, n := range []int64{bounds.lo, bounds.lo + 1, bounds.hi - 1, bounds.hi, 50} {
			rightChange(t, bounds.make(n))
		}
		for _, n := range append(far(), bounds.lo-1, bounds.lo-2, bounds.hi+1, bounds.hi+2) {
			wrongChange(t, bounds.make(n))
		}
		for _, n := range narrow() {
			if n > bounds.hi || n < bounds.lo {
				wrongChange(t, bounds.make(n))
			}
		}
	}
	for _, n := range append(far(), 0, -1, 1048578) {
		for _, m := range append(far(), 0, -1, 1048578) {
			wrongChange(t, ids(n, m))
		}
	}
}

func TestFeedsAndEpisodesOfChanges(t *testing.T) {
	for _, f := range []api.Feed{{}, {Id: 1}, {Url: "u"}, {Id: 1048577, Url: "u"}, {Id: -1, Url: "u"}, {Id: 1, Url: long(201)}, {Id: 1, Url: "u", Next: -1}} {
		wrongChange(t, setFeed(f))
	}
	rightChange(t, setFeed(feed(1048576, long(200))))
	x := ep(1, 1, "g")
	rightChange(t, setEp(x))
	for _, alter := range []func(*api.Ep){
		func(x *api.Ep) { x.Id = 0 }, func(x *api.Ep) { x.Id = 1048577 }, func(x *api.Ep) { x.Feed = 0 }, func(x *api.Ep) { x.Guid = "" },
		func(x *api.Ep) { x.St = 6 }, func(x *api.Ep) { x.Why = 1 }, func(x *api.Ep) { x.Sha = hash }, func(x *api.Ep) { x.Size = 1 },
	} {
		y := x
		alter(&y)
		wrongChange(t, setEp(y))
	}
	wrongChange(t, setEp(api.Ep{}))
}

func TestFieldsThatAKindDoesNotUse(t *testing.T) {
	// Each field of a change that is not its kind's, be it valid as such or not.
	met := 0
	for _, c := range changes() {
		leaves(reflect.ValueOf(&c).Elem(), func(v reflect.Value) {
			before := reflect.New(v.Type()).Elem()
			before.Set(v)
			alter(v)
			if !twinMay(c) {
				met++
				wrongChange(t, c)
			} else {
				rightChange(t, c)
			}
			v.Set(before)
		})
		for _, other := range []api.Change{setFeed(feed(1, "u")), setEp(ep(1, 1, "g")), {N: 1}, {N: -1}, {M: 1}, {M: -1}} {
			both := c
			if both.Feed == (api.Feed{}) {
				both.Feed = other.Feed
			}
			if both.Ep == (api.Ep{}) {
				both.Ep = other.Ep
			}
			if both.N == 0 {
				both.N = other.N
			}
			if both.M == 0 {
				both.M = other.M
			}
			if both != c && (c.Kind != 5 || other.N != 1) {
				met++
				wrongChange(t, both)
			}
		}
	}
	if met < 300 {
		t.Errorf("only %d changes met", met)
	}
}

// Ch2: feeds.

func TestSetFeedAtEachPlace(t *testing.T) {
	s := crowd()
	for at := range 4 {
		// Replaced, also where there are as many as there may be.
		want := copyOf(s)
		want.Feeds[at] = fullFeed(10 + 10*at)
		applied(t, s, list(setFeed(fullFeed(10+10*at))), want)
		// Added, where there is room again.
		rest := copyOf(s)
		rest.Feeds = slices.Delete(rest.Feeds, at, at+1)
		applied(t, rest, list(setFeed(s.Feeds[at])), s)
		applied(t, s, list(drop(int64(10+10*at))), rest)
		applied(t, s, list(drop(int64(10+10*at)), setFeed(s.Feeds[at])), s)
	}
	for _, id := range []int{1, 9, 11, 25, 39, 41, 49, 50, 51, 1048576} {
		refused(t, s, list(setFeed(feed(id, "u"))), api.ErrArg)
	}
}

func TestSetFeedRaisesNextFeed(t *testing.T) {
	for _, example := range []struct{ id, next int }{{1, 9}, {7, 9}, {8, 9}, {9, 10}, {10, 11}, {100, 101}, {1048575, 1048576}, {1048576, 1048577}} {
		s := full()
		s.Feeds = s.Feeds[:2]
		want := copyOf(s)
		want.Feeds = append(want.Feeds, feed(example.id, "x"))
		slices.SortFunc(want.Feeds, func(a, b api.Feed) int { return a.Id - b.Id })
		want.NextFeed = example.next
		applied(t, s, list(setFeed(feed(example.id, "x"))), want)
		// It is not lowered where the feed goes again.
		s.NextFeed = example.next
		applied(t, want, list(drop(int64(example.id))), s)
	}
}

func TestDrop(t *testing.T) {
	s := full()
	for _, n := range []int64{1, 3, 4, 6, 7, 9, 30, 1048576} {
		applied(t, s, list(drop(n)), s)
	}
	want := copyOf(s)
	want.Feeds = want.Feeds[1:]
	applied(t, s, list(drop(2)), want)
	applied(t, s, list(drop(2), drop(2)), want)
	want.Feeds = want.Feeds[:1]
	applied(t, s, list(drop(8), drop(2)), want)
	want.Feeds = nil
	applied(t, s, list(drop(8), drop(5), drop(2)), want)
	applied(t, change.Start(), list(drop(1)), change.Start())
}

// Ch2: episodes.

func TestSetEpAtEachPlace(t *testing.T) {
	s := crowd()
	for at := range 30 {
		want := copyOf(s)
		want.Eps[at] = fullEp(10+10*at, 49)
		applied(t, s, list(setEp(fullEp(10+10*at, 49))), want)
		rest := copyOf(s)
		rest.Eps = slices.Delete(rest.Eps, at, at+1)
		applied(t, rest, list(setEp(s.Eps[at])), s)
		for _, id := range []int{9 + 10*at, 11 + 10*at} {
			refused(t, s, list(setEp(ep(id, 49, "new"))), api.ErrArg)
			want := copyOf(rest)
			want.Eps = slices.Insert(want.Eps, at, ep(id, 49, "new"))
			applied(t, rest, list(setEp(ep(id, 49, "new"))), want)
		}
	}
}

func TestSetEpRaisesNextEp(t *testing.T) {
	for _, example := range []struct{ id, next int }{{1, 41}, {39, 41}, {40, 41}, {41, 42}, {42, 43}, {1048575, 1048576}, {1048576, 1048577}} {
		want := full()
		want.Eps = append(want.Eps, ep(example.id, 8, "x"))
		slices.SortFunc(want.Eps, func(a, b api.Ep) int { return a.Id - b.Id })
		want.NextEp = example.next
		applied(t, full(), list(setEp(ep(example.id, 8, "x"))), want)
	}
}

func TestSetEpWithTheGuidOfAnother(t *testing.T) {
	s := full()
	refused(t, s, list(setEp(ep(5, 2, "a"))), api.ErrArg)
	refused(t, s, list(setEp(ep(4, 2, "a"))), api.ErrArg)
	refused(t, s, list(setEp(ep(40, 7, "c"))), api.ErrArg)
	want := copyOf(s)
	want.Eps[1] = ep(4, 1, "a")
	applied(t, s, list(setEp(ep(4, 1, "a"))), want)
	// The two may change their Guids with each other.
	want = copyOf(s)
	want.Eps[0], want.Eps[1] = ep(3, 2, "b"), ep(4, 2, "a")
	applied(t, s, list(setEp(ep(3, 2, "b")), setEp(ep(4, 2, "a"))), want)
}

func TestSetEpOfAFeed(t *testing.T) {
	s := full()
	for _, id := range []int{1, 3, 8} {
		want := copyOf(s)
		want.Eps = append(want.Eps, ep(40, id, "x"))
		applied(t, s, list(setEp(ep(40, id, "x"))), want)
	}
	for _, id := range []int{9, 10, 1048576} {
		refused(t, s, list(setEp(ep(40, id, "x"))), api.ErrArg)
		refused(t, s, list(setEp(ep(40, id, "x")), ids(int64(id), 1)), api.ErrArg)
		want := copyOf(s)
		want.Eps = append(want.Eps, ep(40, id, "x"))
		want.NextFeed = id + 1
		applied(t, s, list(setEp(ep(40, id, "x")), ids(int64(id+1), 1)), want)
		applied(t, s, list(setEp(ep(40, id, "x")), setFeed(feed(id, "u")), drop(int64(id))), want)
	}
}

// Ch2: numbers.

func TestIds(t *testing.T) {
	s := full()
	for _, n := range []int{1, 8, 9, 10, 1048576, 1048577} {
		for _, m := range []int{1, 40, 41, 42, 1048576, 1048577} {
			want := copyOf(s)
			if n > 9 {
				want.NextFeed = n
			}
			if m > 41 {
				want.NextEp = m
			}
			applied(t, s, list(ids(int64(n), int64(m))), want)
		}
	}
}

func TestKeepAndQuota(t *testing.T) {
	for _, s := range states() {
		for _, n := range []int64{1, 2, 99, 100} {
			want := copyOf(s)
			want.Keep, want.Quota = int(n), n-1
			applied(t, s, list(keep(n), quota(n-1)), want)
			applied(t, s, list(quota(5), keep(7), quota(n-1), keep(n)), want)
		}
	}
}

// Ch2: what is invalid in between.

func TestInvalidInBetween(t *testing.T) {
	s := crowd()
	want := copyOf(s)
	want.Feeds[0] = feed(1, "u")
	applied(t, s, list(setFeed(feed(1, "u")), drop(10)), want)
	applied(t, s, list(drop(10), setFeed(feed(1, "u"))), want)
	refused(t, s, list(setFeed(feed(1, "u")), drop(2)), api.ErrArg)
	refused(t, s, list(setFeed(feed(1, "u")), setFeed(feed(2, "u")), drop(10)), api.ErrArg)

	var many []api.Change
	for id := 1; id <= 9; id++ {
		many = append(many, setFeed(feed(id, "u")))
	}
	refused(t, s, many, api.ErrArg)
	for id := 1; id <= 9; id++ {
		many = append(many, drop(int64(id)))
	}
	applied(t, s, many, s)
}

func TestTooManyEpisodes(t *testing.T) {
	// No change removes one: the last of these has no room, wherever it stands.
	var l []api.Change
	for id := 1; id <= 31; id++ {
		l = append(l, setEp(ep(id, id, "g")))
	}
	l = append(l, ids(32, 1))
	want := api.State{Keep: 5, Quota: 4096, NextFeed: 32, NextEp: 31}
	for id := 1; id <= 30; id++ {
		want.Eps = append(want.Eps, ep(id, id, "g"))
	}
	applied(t, change.Start(), slices.Delete(slices.Clone(l), 30, 31), want)
	refused(t, change.Start(), l, api.ErrArg)
	slices.Reverse(l)
	refused(t, change.Start(), l, api.ErrArg)
	for id := 32; id <= 2000; id++ {
		l = append(l, setEp(ep(id, id, "g")))
	}
	refused(t, change.Start(), l, api.ErrArg)
	slices.Reverse(l)
	refused(t, change.Start(), l, api.ErrArg)
}

// Ch2: which error comes first.

func TestOrderOfErrors(t *testing.T) {
	invalid := full()
	invalid.Keep = 0
	for _, l := range [][]api.Change{nil, list(keep(0)), list(keep(1)), list(setEp(ep(3, 2, "b"))), list(api.Change{Kind: 7})} {
		refused(t, invalid, l, api.ErrState)
		refused(t, api.State{}, l, api.ErrState)
	}
	// Not even a change that would make the state valid is applied.
	refused(t, invalid, list(keep(5)), api.ErrState)
	late := full()
	late.NextFeed = 8
	refused(t, late, list(ids(9, 1)), api.ErrState)
}

// Ch4: consequences.

func TestWholeOfAStateMakesIt(t *testing.T) {
	for _, s := range states() {
		l := change.Whole(s)
		applied(t, change.Start(), l, s)
		b, err := change.Put(l)
		if err != api.OK {
			t.Errorf("Put of Whole(%v) = %d", brief(s), err)
		}
		if back, err := change.Take(b); err != api.OK || !slices.Equal(back, l) {
			t.Errorf("Take of Put of Whole(%v) = %v, %d", brief(s), short(back), err)
		}
	}
}

func TestChangesOfDifferentEpisodesInAnyOrder(t *testing.T) {
	r := rand.New(rand.NewSource(4))
	for _, s := range []api.State{change.Start(), full(), crowd()} {
		l := list(setEp(ep(10, 4, "v")), setEp(fullEp(20, 2)), setEp(ep(30, 1, "w")), setEp(ep(290, 3, "x")), setEp(ep(300, 2, "y")))
		base, err := change.Apply(s, list(ids(5, 1)))
		if err != api.OK {
			t.Fatalf("Apply = %d", err)
		}
		want, err := change.Apply(base, l)
		if err != api.OK {
			t.Fatalf("Apply(%v, %v) = %d", brief(base), short(l), err)
		}
		for range 50 {
			r.Shuffle(len(l), func(i, j int) { l[i], l[j] = l[j], l[i] })
			applied(t, base, l, want)
			// One call for each is the same, as long as the state stays valid.
			one := base
			for _, c := range l {
				one, _ = change.Apply(one, list(c))
			}
			if !change.Same(one, want) {
				t.Errorf("one by one: %v, want %v", brief(one), brief(want))
			}
		}
	}
}
