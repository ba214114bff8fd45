package change_test

import (
	"math"
	"reflect"
	"slices"
	"testing"

	"newsreel/api"
	"newsreel/change"
)

// rightState fails the test unless s is valid, for every function that asks it, and is what the changes of Whole make.
func rightState(t *testing.T, s api.State) {
	t.Helper()
	if !change.Right(s) {
		t.Errorf("Right(%v) = false", brief(s))
	}
	applied(t, s, nil, s)
	whole := list(keep(int64(s.Keep)), quota(s.Quota), ids(int64(s.NextFeed), int64(s.NextEp)))
	for _, f := range s.Feeds {
		whole = append(whole, setFeed(f))
	}
	for _, x := range s.Eps {
		whole = append(whole, setEp(x))
	}
	got := change.Whole(s)
	if !slices.Equal(got, whole) {
		t.Errorf("Whole(%v) = %v, want %v", brief(s), short(got), short(whole))
	}
	applied(t, change.Start(), whole, s)
	coded(t, whole, twinBytes(whole))
}

// wrongState fails the test unless s is not valid, for every function that asks it, whatever the changes are.
func wrongState(t *testing.T, s api.State) {
	t.Helper()
	if change.Right(s) {
		t.Errorf("Right(%v) = true", brief(s))
	}
	if got := change.Whole(s); len(got) != 0 {
		t.Errorf("Whole(%v) = %v, want none", brief(s), short(got))
	}
	for _, l := range [][]api.Change{nil, list(keep(1)), list(api.Change{}), list(keep(0), keep(1)), list(ids(1048577, 1048577)), list(quota(1), setFeed(api.Feed{}))} {
		refused(t, s, l, api.ErrState)
	}
}

// far are numbers that none of a state or a change may be, among them those that are small in fewer bits.
func far() []int64 {
	return []int64{math.MinInt64, math.MinInt64 + 1, math.MaxInt64 - 1, math.MaxInt64, -1 << 62, 1 << 62, 1<<62 + 1, 1<<48 + 1, 1<<56 + 1, 1<<41 + 1, -1 << 48, -1 << 40}
}

// narrow are numbers that no small one may be, among them those that are small in fewer bits.
func narrow() []int64 {
	return []int64{1 << 32, 1<<32 + 1, 1<<32 + 2, 1<<33 + 3, -1<<32 + 1, -1<<32 + 2, 1 << 40, 1<<40 + 1, math.MinInt32, math.MaxInt32, math.MaxUint32, -256, -255, -65535}
}

// Ch1: valid states.

func TestValidStates(t *testing.T) {
	for _, s := range states() {
		rightState(t, s)
	}
	wrongState(t, api.State{})
}

func TestEmptyListsAreNone(t *testing.T) {
	s := change.Start()
	s.Feeds, s.Eps = []api.Feed{}, []api.Ep{}
	rightState(t, s)
	if !change.Same(s, change.Start()) || !change.Same(change.Start(), s) {
		t.Error("Same tells empty lists from none")
	}
}

func TestKeep(t *testing.T) {
	for _, s := range states() {
		for _, n := range []int{1, 2, 50, 99, 100} {
			s.Keep = n
			rightState(t, s)
		}
		for _, n := range append(far(), append(narrow(), -2, -1, 0, 101, 102, 256, 257, 65537)...) {
			s.Keep = int(n)
			wrongState(t, s)
		}
	}
}

func TestQuota(t *testing.T) {
	for _, s := range states() {
		for _, n := range []int64{0, 1, 2, 1 << 32, 1099511627775, 1099511627776} {
			s.Quota = n
			rightState(t, s)
		}
		for _, n := range append(far(), -2, -1, 1099511627777, 1099511627778) {
			s.Quota = n
			wrongState(t, s)
		}
	}
}

func TestNextFeed(t *testing.T) {
	// The greatest number of a feed, be it in the list or that of an episode, is less.
	for _, example := range []struct {
		s     api.State
		least int
	}{
		{change.Start(), 1},
		{full(), 9},
		{crowd(), 41},
		{brim(), 1048577},
		{api.State{Keep: 1, NextEp: 5, Eps: []api.Ep{ep(4, 6, "g")}}, 7},
		{api.State{Keep: 1, NextEp: 5, Feeds: []api.Feed{feed(3, "u")}, Eps: []api.Ep{ep(3, 2, "g"), ep(4, 1, "g")}}, 4},
		{api.State{Keep: 1, NextEp: 5, Feeds: []api.Feed{feed(3, "u")}, Eps: []api.Ep{ep(3, 3, "g"), ep(4, 8, "g")}}, 9},
		{api.State{Keep: 1, NextEp: 5, Feeds: []api.Feed{feed(3, "u")}, Eps: []api.Ep{ep(3, 8, "g"), ep(4, 1, "g")}}, 9},
	} {
		s := example.s
		for _, n := range []int{example.least, example.least + 1, 1048576, 1048577} {
			if s.NextFeed = n; n >= example.least && n <= 1048577 {
				rightState(t, s)
			}
		}
		for _, n := range append(far(), append(narrow(), -2, -1, 0, 1048578, 1048579, int64(example.least-1), int64(example.least-2))...) {
			s.NextFeed = int(n)
			wrongState(t, s)
		}
	}
}

func TestNextEp(t *testing.T) {
	for _, example := range []struct {
		s     api.State
		least int
	}{
		{change.Start(), 1},
		{full(), 32},
		{crowd(), 301},
		{brim(), 1048577},
		{api.State{Keep: 1, NextFeed: 50, Feeds: []api.Feed{feed(49, "u")}, Eps: []api.Ep{ep(4, 49, "g")}}, 5},
	} {
		s := example.s
		for _, n := range []int{example.least, example.least + 1, 1048576, 1048577} {
			if s.NextEp = n; n >= example.least && n <= 1048577 {
				rightState(t, s)
			}
		}
		for _, n := range append(far(), append(narrow(), -2, -1, 0, 1048578, 1048579, int64(example.least-1), int64(example.least-2))...) {
			s.NextEp = int(n)
			wrongState(t, s)
		}
	}
}

func TestNumbersOfFeedsAndEpisodes(t *testing.T) {
	s := crowd()
	s.Feeds = append(s.Feeds, feed(45, "f"))
	wrongState(t, s)
	s.Feeds = s.Feeds[1:]
	rightState(t, s)

	s = crowd()
	s.Eps = append(s.Eps, ep(305, 1, "h"))
	wrongState(t, s)
	s.Eps = s.Eps[1:]
	rightState(t, s)

	// Far more of them end as well.
	s = crowd()
	s.NextEp = 1048577
	for id := 400; id < 100400; id++ {
		s.Eps = append(s.Eps, ep(id, 1, "h"))
		s.Feeds = append(s.Feeds, feed(id, "h"))
	}
	if change.Right(s) || len(change.Whole(s)) != 0 {
		t.Error("a state of many episodes is valid")
	}
	s.Feeds = nil
	if change.Right(s) || len(change.Whole(s)) != 0 {
		t.Error("a state of many episodes is valid")
	}
}

func TestOrderOfNumbers(t *testing.T) {
	for _, s := range []api.State{full(), crowd()} {
		for i := range s.Feeds[1:] {
			other := copyOf(s)
			other.Feeds[i+1].Id = s.Feeds[i].Id + 1
			if i+2 == len(s.Feeds) || s.Feeds[i+2].Id > s.Feeds[i].Id+1 {
				rightState(t, other)
			}
			other.Feeds[i+1].Id = s.Feeds[i].Id
			wrongState(t, other)
			other.Feeds[i+1].Id = s.Feeds[i].Id - 1
			wrongState(t, other)
			other = copyOf(s)
			other.Feeds[i], other.Feeds[i+1] = s.Feeds[i+1], s.Feeds[i]
			wrongState(t, other)
		}
		for i := range s.Eps[1:] {
			other := copyOf(s)
			other.Eps[i+1].Id = s.Eps[i].Id + 1
			if i+2 == len(s.Eps) || s.Eps[i+2].Id > s.Eps[i].Id+1 {
				rightState(t, other)
			}
			other.Eps[i+1].Id = s.Eps[i].Id
			wrongState(t, other)
			other.Eps[i+1].Id = s.Eps[i].Id - 1
			wrongState(t, other)
			other = copyOf(s)
			other.Eps[i], other.Eps[i+1] = s.Eps[i+1], s.Eps[i]
			wrongState(t, other)
		}
	}
}

func TestInvalidFeedsAndEpisodes(t *testing.T) {
	for at := range crowd().Feeds {
		for _, bad := range []api.Feed{{Id: 10 + 10*at}, {Id: 10 + 10*at, Url: long(201)}, {Id: 10 + 10*at, Url: "u", Fails: -1}, {Id: 10 + 10*at, Url: "u", Tag: long(201)}, {}} {
			s := crowd()
			s.Feeds[at] = bad
			wrongState(t, s)
		}
	}
	for at := range crowd().Eps {
		x := crowd().Eps[at]
		bads := []api.Ep{x, x, x, x, {}}
		bads[0].St = 0
		bads[1].Guid = ""
		bads[2].Sha = hash
		bads[3].Feed = 0
		for _, bad := range bads {
			s := crowd()
			s.Eps[at] = bad
			wrongState(t, s)
		}
	}
	for _, s := range []api.State{change.Start(), full()} {
		s.Feeds = append([]api.Feed{{Id: 0, Url: "u"}}, s.Feeds...)
		wrongState(t, s)
		s.Feeds[0].Id = -1
		wrongState(t, s)
	}
}

func TestGuids(t *testing.T) {
	// Any two places: the same Guid is that of one feed, or of two.
	for i := range 30 {
		for j := range i {
			s := crowd()
			s.Eps[i].Guid, s.Eps[j].Guid = "same", "same"
			rightState(t, s)
			s.Eps[i].Feed = s.Eps[j].Feed
			wrongState(t, s)
			s.Eps[i].Guid = "Same"
			rightState(t, s)
			if t.Failed() {
				return
			}
		}
	}
	// All else may be the same, and a feed need not be there.
	s := change.Start()
	s.NextFeed, s.NextEp = 3, 3
	s.Eps = []api.Ep{ep(1, 2, "a"), ep(2, 2, "a")}
	wrongState(t, s)
	s.Eps[1].Title, s.Eps[1].Url, s.Eps[1].St = "t", "v", 5
	wrongState(t, s)
	s.Eps[1].Guid = "a "
	rightState(t, s)
}

// Ch1: Same.

// leaves calls f with each field of a value that is no struct or list.
func leaves(v reflect.Value, f func(reflect.Value)) {
	switch v.Kind() {
	case reflect.Struct:
		for i := range v.NumField() {
			leaves(v.Field(i), f)
		}
	case reflect.Slice:
		for i := range v.Len() {
			leaves(v.Index(i), f)
		}
	default:
		f(v)
	}
}

// alter gives a field another value.
func alter(v reflect.Value) {
	switch v.Kind() {
	case reflect.String:
		v.SetString(v.String() + "x")
	case reflect.Bool:
		v.SetBool(!v.Bool())
	default:
		v.SetInt(v.Int() + 1)
	}
}

// differ fails the test unless Same tells two states apart.
func differ(t *testing.T, a, b api.State) {
	t.Helper()
	if change.Same(a, b) || change.Same(b, a) {
		t.Errorf("Same(%v, %v) = true", brief(a), brief(b))
	}
	if !change.Same(a, copyOf(a)) || !change.Same(b, copyOf(b)) {
		t.Errorf("Same tells %v or %v from itself", brief(a), brief(b))
	}
}

func TestSame(t *testing.T) {
	all := append(states(), api.State{}, api.State{Feeds: []api.Feed{{}}}, api.State{Eps: []api.Ep{{}}})
	for i, a := range all {
		for j, b := range all {
			if got := change.Same(a, copyOf(b)); got != (i == j) {
				t.Errorf("Same(%v, %v) = %t", brief(a), brief(b), got)
			}
		}
	}
}

func TestSameWithOneFieldChanged(t *testing.T) {
	met := 0
	for _, s := range []api.State{full(), {Feeds: make([]api.Feed, 2), Eps: make([]api.Ep, 2)}, crowd()} {
		other := copyOf(s)
		leaves(reflect.ValueOf(&other).Elem(), func(v reflect.Value) {
			before := reflect.New(v.Type()).Elem()
			before.Set(v)
			alter(v)
			differ(t, s, other)
			v.Set(before)
			met++
		})
	}
	if want := 3*4 + (3+2+4)*5 + (5+2+30)*20; met != want {
		t.Errorf("%d fields met, want %d", met, want)
	}
}

func TestSameWithOneElementChanged(t *testing.T) {
	s := full()
	for i := range s.Feeds {
		other := copyOf(s)
		other.Feeds = slices.Delete(other.Feeds, i, i+1)
		differ(t, s, other)
		other = copyOf(s)
		other.Feeds = slices.Insert(other.Feeds, i, other.Feeds[i])
		differ(t, s, other)
		other = copyOf(s)
		other.Feeds[i], other.Feeds[(i+1)%3] = other.Feeds[(i+1)%3], other.Feeds[i]
		differ(t, s, other)
	}
	for i := range s.Eps {
		other := copyOf(s)
		other.Eps = slices.Delete(other.Eps, i, i+1)
		differ(t, s, other)
		other = copyOf(s)
		other.Eps = slices.Insert(other.Eps, i, other.Eps[i])
		differ(t, s, other)
		other = copyOf(s)
		other.Eps[i], other.Eps[(i+1)%5] = other.Eps[(i+1)%5], other.Eps[i]
		differ(t, s, other)
	}
	for n := range 4 {
		other := full()
		other.Feeds = append(other.Feeds[:n:n], make([]api.Feed, 4)...)
		differ(t, s, other)
	}
	differ(t, s, api.State{Keep: s.Keep, Quota: s.Quota, NextFeed: s.NextFeed, NextEp: s.NextEp, Feeds: s.Feeds})
	differ(t, s, api.State{Keep: s.Keep, Quota: s.Quota, NextFeed: s.NextFeed, NextEp: s.NextEp, Eps: s.Eps})
}

// Ch1: Find and Feed.

func TestFindAndFeed(t *testing.T) {
	for _, s := range states() {
		for _, id := range append(far(), append(narrow(), -2, -1, 0, 1, 2, 3, 4, 5, 6, 7, 8, 9, 10, 20, 25, 30, 31, 40, 300, 310, 1048576, 1048577)...) {
			found(t, s, int(id))
		}
	}
}

// found fails the test unless Find and Feed return the first one with a number, or nothing.
func found(t *testing.T, s api.State, id int) {
	t.Helper()
	var wantEp api.Ep
	var wantFeed api.Feed
	at := slices.IndexFunc(s.Eps, func(x api.Ep) bool { return x.Id == id })
	if at >= 0 {
		wantEp = s.Eps[at]
	}
	if got, ok := change.Find(s, id); ok != (at >= 0) || got != wantEp {
		t.Errorf("Find(%v, %d) = %v, %t", brief(s), id, got, ok)
	}
	at = slices.IndexFunc(s.Feeds, func(f api.Feed) bool { return f.Id == id })
	if at >= 0 {
		wantFeed = s.Feeds[at]
	}
	if got, ok := change.Feed(s, id); ok != (at >= 0) || got != wantFeed {
		t.Errorf("Feed(%v, %d) = %v, %t", brief(s), id, got, ok)
	}
}

func TestFindWrittenOut(t *testing.T) {
	s := full()
	if x, ok := change.Find(s, 30); !ok || x != fullEp(30, 8) {
		t.Errorf("Find(30) = %v, %t", x, ok)
	}
	if x, ok := change.Find(s, 5); ok || x != (api.Ep{}) {
		t.Errorf("Find(5) = %v, %t", x, ok)
	}
	if f, ok := change.Feed(s, 5); !ok || f != fullFeed(5) {
		t.Errorf("Feed(5) = %v, %t", f, ok)
	}
	if f, ok := change.Feed(s, 7); ok || f != (api.Feed{}) {
		t.Errorf("Feed(7) = %v, %t", f, ok)
	}
}

func TestFindInInvalidStates(t *testing.T) {
	// Numbers that fall, that are there twice, and those that none may have.
	s := api.State{
		Feeds: []api.Feed{feed(9, "a"), feed(3, "b"), feed(9, "c"), feed(3, "d"), {}, {Id: -1}, feed(10, "e"), feed(1, "f")},
		Eps:   []api.Ep{ep(9, 1, "a"), ep(3, 1, "b"), ep(9, 1, "c"), ep(3, 1, "d"), {Title: "zero"}, {Id: -1}, ep(10, 1, "e"), ep(1, 1, "f")},
	}
	for id := -2; id < 12; id++ {
		found(t, s, id)
	}
	if x, ok := change.Find(s, 3); !ok || x.Guid != "b" {
		t.Errorf("Find(3) = %v, %t", x, ok)
	}
	if x, ok := change.Find(s, 0); !ok || x.Title != "zero" {
		t.Errorf("Find(0) = %v, %t", x, ok)
	}
	if f, ok := change.Feed(s, 9); !ok || f.Url != "a" {
		t.Errorf("Feed(9) = %v, %t", f, ok)
	}
	if f, ok := change.Feed(s, 0); !ok || f != (api.Feed{}) {
		t.Errorf("Feed(0) = %v, %t", f, ok)
	}
	found(t, api.State{}, 0)
	found(t, api.State{}, 1)
}
