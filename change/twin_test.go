package change_test

import (
	"encoding/binary"
	"maps"
	"math/rand"
	"reflect"
	"slices"
	"testing"

	"newsreel/api"
	"newsreel/change"
	"newsreel/code"
	"newsreel/rows"
)

// twinRight does what the chapter says of a valid state, clause by clause.
func twinRight(s api.State) bool {
	next := func(n int) bool { return n >= 1 && n <= 1048577 }
	right := s.Keep >= 1 && s.Keep <= 100
	right = right && s.Quota >= 0 && s.Quota <= 1099511627776
	right = right && len(s.Feeds) <= 4 && len(s.Eps) <= 30
	right = right && next(s.NextFeed) && next(s.NextEp)
	for i, f := range s.Feeds {
		right = right && rows.FeedRight(f) && f.Id < s.NextFeed
		right = right && (i == 0 || s.Feeds[i-1].Id < f.Id)
	}
	names := map[any]int{}
	for i, x := range s.Eps {
		right = right && rows.EpRight(x) && x.Id < s.NextEp && x.Feed < s.NextFeed
		right = right && (i == 0 || s.Eps[i-1].Id < x.Id)
		names[struct {
			feed int
			guid string
		}{x.Feed, x.Guid}]++
	}
	return right && len(names) == len(s.Eps)
}

// twinMay does what the chapter says of a valid change: what its kind uses is right, and nothing else is left.
func twinMay(c api.Change) bool {
	right := false
	kind := c.Kind
	c.Kind = 0
	switch kind {
	case 1:
		right, c.Feed = rows.FeedRight(c.Feed), api.Feed{}
	case 2:
		right, c.N = c.N >= 1 && c.N <= 1048576, 0
	case 3:
		right, c.Ep = rows.EpRight(c.Ep), api.Ep{}
	case 4:
		right, c.N = c.N >= 1 && c.N <= 100, 0
	case 5:
		right, c.N = c.N >= 0 && c.N <= 1099511627776, 0
	case 6:
		right = c.N >= 1 && c.N <= 1048577 && c.M >= 1 && c.M <= 1048577
		c.N, c.M = 0, 0
	}
	return right && reflect.ValueOf(c).IsZero()
}

// twinApply does what the chapter says of Apply, with the feeds and episodes by number.
func twinApply(s api.State, l []api.Change) (api.State, api.Errno) {
	if !twinRight(s) {
		return api.State{}, api.ErrState
	}
	feeds, eps := map[int]api.Feed{}, map[int]api.Ep{}
	for _, f := range s.Feeds {
		feeds[f.Id] = f
	}
	for _, x := range s.Eps {
		eps[x.Id] = x
	}
	for _, c := range l {
		if !twinMay(c) {
			return api.State{}, api.ErrArg
		}
		switch c.Kind {
		case 1:
			feeds[c.Feed.Id] = c.Feed
			raise(&s.NextFeed, c.Feed.Id+1)
		case 2:
			delete(feeds, int(c.N))
		case 3:
			eps[c.Ep.Id] = c.Ep
			raise(&s.NextEp, c.Ep.Id+1)
		case 4:
			s.Keep = int(c.N)
		case 5:
			s.Quota = c.N
		case 6:
			raise(&s.NextFeed, int(c.N))
			raise(&s.NextEp, int(c.M))
		}
	}
	s.Feeds, s.Eps = nil, nil
	for _, id := range slices.Sorted(maps.Keys(feeds)) {
		s.Feeds = append(s.Feeds, feeds[id])
	}
	for _, id := range slices.Sorted(maps.Keys(eps)) {
		s.Eps = append(s.Eps, eps[id])
	}
	if !twinRight(s) {
		return api.State{}, api.ErrArg
	}
	return s, api.OK
}

// raise makes a number that is less than n equal to it.
func raise(next *int, n int) {
	if *next < n {
		*next = n
	}
}

// num and text make values without the program's help.
func num(n int64) api.Val   { return api.Val{Kind: 1, N: n} }
func text(s string) api.Val { return api.Val{Kind: 2, T: s} }

// twinRow returns the row of a change, valid or not; for no kind there is none.
func twinRow(c api.Change) []api.Val {
	switch f, x := c.Feed, c.Ep; c.Kind {
	case 1:
		return []api.Val{text("feed"), num(int64(f.Id)), text(f.Url), text(f.Tag), num(f.Next), num(int64(f.Fails))}
	case 2:
		return []api.Val{text("drop"), num(c.N)}
	case 3:
		pinned := int64(0)
		if x.Pinned {
			pinned = 1
		}
		return []api.Val{
			text("ep"), num(int64(x.Id)), num(int64(x.Feed)), text(x.Guid), text(x.Url), text(x.Title), num(x.Date), num(x.Long),
			num(int64(x.St)), num(int64(x.Why)), num(pinned), num(x.Pos), num(int64(x.Tries)), num(x.Next), text(x.Cur),
			num(int64(x.Hops)), num(int64(x.Gen)), text(x.Tag), num(x.Total), num(x.Size), text(x.Sha),
		}
	case 4:
		return []api.Val{text("keep"), num(c.N)}
	case 5:
		return []api.Val{text("quota"), num(c.N)}
	case 6:
		return []api.Val{text("ids"), num(c.N), num(c.M)}
	}
	return nil
}

// rowBytes returns the encoding of a row, valid or not, by the library's integers.
func rowBytes(row []api.Val) []byte {
	b := binary.AppendUvarint(nil, uint64(len(row)))
	for _, v := range row {
		b = append(b, byte(v.Kind))
		if v.Kind == 1 {
			b = binary.AppendVarint(b, v.N)
			continue
		}
		b = binary.AppendUvarint(b, uint64(len(v.T)))
		b = append(b, v.T...)
	}
	return b
}

// twinBytes returns the encodings of changes, valid or not.
func twinBytes(l []api.Change) []byte {
	var b []byte
	for _, c := range l {
		b = append(b, rowBytes(twinRow(c))...)
	}
	return b
}

// twinTake does what the chapter says of Take: it reads rows, and determines the kind of each by its text and its length.
func twinTake(b []byte) ([]api.Change, api.Errno) {
	var l []api.Change
	for len(b) > 0 {
		row, n, err := code.Take(b)
		if err != api.OK {
			return nil, err
		}
		c, ok := twinRead(row)
		if !ok {
			return nil, api.ErrForm
		}
		l, b = append(l, c), b[n:]
	}
	return l, api.OK
}

// twinRead returns the valid change that has a row, and whether there is one.
func twinRead(row []api.Val) (api.Change, bool) {
	var c api.Change
	if len(row) == 0 || row[0].Kind != 2 {
		return c, false
	}
	form := []int{}
	for _, v := range row[1:] {
		form = append(form, v.Kind)
	}
	var err api.Errno
	switch one := slices.Equal(form, []int{1}); {
	case row[0].T == "feed":
		c.Kind = 1
		c.Feed, err = rows.TakeFeed(row)
	case row[0].T == "ep":
		c.Kind = 3
		c.Ep, err = rows.TakeEp(row)
	case row[0].T == "drop" && one:
		c.Kind, c.N = 2, row[1].N
	case row[0].T == "keep" && one:
		c.Kind, c.N = 4, row[1].N
	case row[0].T == "quota" && one:
		c.Kind, c.N = 5, row[1].N
	case row[0].T == "ids" && slices.Equal(form, []int{1, 1}):
		c.Kind, c.N, c.M = 6, row[1].N, row[2].N
	}
	return c, err == api.OK && twinMay(c)
}

// agrees fails the test unless the package says of a state and changes what the chapter's words say.
func agrees(t *testing.T, s api.State, l []api.Change) {
	t.Helper()
	for _, c := range l {
		if got := change.May(c); got != twinMay(c) {
			t.Errorf("May(%v) = %t", short(list(c)), got)
		}
	}
	if twinRight(s) {
		rightState(t, s)
	} else {
		wrongState(t, s)
	}
	if want, err := twinApply(s, l); err == api.OK {
		applied(t, s, l, want)
	} else {
		refused(t, s, l, err)
	}
	if slices.ContainsFunc(l, func(c api.Change) bool { return !twinMay(c) }) {
		noPut(t, l)
	} else {
		coded(t, l, twinBytes(l))
	}
}

// agreesOn fails the test unless Take returns for b what the chapter's words say, and Put returns b for what is accepted.
func agreesOn(t *testing.T, b []byte) {
	t.Helper()
	if l, err := twinTake(b); err == api.OK {
		coded(t, l, b)
	} else {
		noTake(t, b, err)
	}
}

// The pools of which random states and changes are made: valid things mostly.
func somebodysFeed(next func(int) int) api.Feed {
	f := feed(pick(next, 1, 2, 3, 4, 5, 6, 7, 1048576), "u")
	f.Fails = next(3)
	if next(200) == 0 {
		f.Fails = -1
	}
	return f
}

func somebodysEp(next func(int) int) api.Ep {
	x := ep(pick(next, 1, 2, 3, 4, 5, 6, 7, 8, 9, 10, 1048576), pick(next, 1, 1, 1, 2, 2, 3, 4, 5, 7, 8), string(rune('a'+next(6))))
	if next(5) == 0 {
		x.St, x.Why, x.Pinned = 4, 1+next(4), true
	}
	if next(200) == 0 {
		x.Url = ""
	}
	return x
}

func somebodysChange(next func(int) int) api.Change {
	var c api.Change
	switch kind := next(60); {
	case kind < 12:
		c = setFeed(somebodysFeed(next))
	case kind < 22:
		c = drop(int64(pick(next, 1, 2, 3, 4, 5, 6, 7, 8, 1048576)))
	case kind < 40:
		c = setEp(somebodysEp(next))
	case kind < 45:
		c = keep(int64(pick(next, 1, 2, 99, 100)))
	case kind < 50:
		c = quota([]int64{0, 1, 1 << 40}[next(3)])
	default:
		c = ids(int64(pick(next, 1, 2, 3, 5, 7, 8, 9, 1048577)), int64(pick(next, 1, 2, 3, 5, 9, 10, 11, 1048577)))
	}
	switch next(300) {
	case 0:
		c.Kind = next(9) - 1
	case 1:
		c.N = []int64{-1, 0, 1, 101, 1 << 20, 1<<20 + 1, 1<<20 + 2, 1<<40 + 1, 1<<32 + 1}[next(9)]
	case 2:
		c.M = []int64{-1, 0, 1, 1<<20 + 1, 1<<20 + 2, 1<<32 + 1}[next(6)]
	case 3:
		c.Feed = somebodysFeed(next)
	case 4:
		c.Ep = somebodysEp(next)
	}
	return c
}

func somebodysState(next func(int) int) api.State {
	s := api.State{Keep: 1 + next(100), Quota: int64(next(5000)), NextFeed: pick(next, 1, 6, 9, 9, 1048577), NextEp: pick(next, 1, 7, 12, 1048577)}
	for id := 1; id < s.NextFeed && id < 9 && len(s.Feeds) < 4; id += 1 + next(4) {
		s.Feeds = append(s.Feeds, feed(id, "v"))
	}
	for id := 1; id < s.NextEp && id < 12 && s.NextFeed > 1; id += 1 + next(4) {
		s.Eps = append(s.Eps, ep(id, 1+next(s.NextFeed-1)%6, string(rune('a'+next(6)))))
	}
	switch next(60) {
	case 0:
		s.Keep = pick(next, -1, 0, 101)
	case 1:
		s.NextFeed = next(10)
	case 2:
		s.NextEp = next(10)
	case 3:
		s.Feeds = append(s.Feeds, somebodysFeed(next))
	case 4:
		s.Eps = append(s.Eps, somebodysEp(next))
	case 5:
		rand.New(rand.NewSource(int64(next(10)))).Shuffle(len(s.Eps), func(i, j int) { s.Eps[i], s.Eps[j] = s.Eps[j], s.Eps[i] })
	}
	return s
}

// pick returns one of several numbers.
func pick(next func(int) int, l ...int) int { return l[next(len(l))] }

// Ch1 to Ch4: random states and changes.

func TestRandomStatesAndChanges(t *testing.T) {
	r := rand.New(rand.NewSource(15))
	outcomes := map[api.Errno]int{}
	for range 20000 {
		s := somebodysState(r.Intn)
		var l []api.Change
		for range r.Intn(8) {
			l = append(l, somebodysChange(r.Intn))
		}
		agrees(t, s, l)
		_, err := twinApply(s, l)
		outcomes[err]++
		if t.Failed() {
			return
		}
	}
	for _, err := range []api.Errno{api.OK, api.ErrArg, api.ErrState} {
		if outcomes[err] < 1000 {
			t.Errorf("outcomes %v: too few of %d", outcomes, err)
		}
	}
}

func TestRandomWalk(t *testing.T) {
	// What Apply returns is a valid state to go on with.
	r := rand.New(rand.NewSource(16))
	steps := 0
	for range 200 {
		s := change.Start()
		for range 100 {
			l := list(somebodysChange(r.Intn))
			agrees(t, s, l)
			if next, err := change.Apply(s, l); err == api.OK {
				s = next
				steps++
			}
			if t.Failed() {
				return
			}
		}
	}
	if steps < 5000 {
		t.Errorf("only %d steps", steps)
	}
}

func TestRandomRows(t *testing.T) {
	values := []api.Val{text("drop"), text("keep"), text("quota"), text("ids"), text("feed"), text("ep"), text(""), text("x"),
		num(0), num(1), num(2), num(100), num(101), num(-1), num(1 << 20), num(1<<20 + 1), num(1<<20 + 2), num(1 << 40), num(1<<40 + 1), num(1<<32 + 1)}
	// Every row of up to three of these values, alone and behind a valid one.
	for i := range values {
		agreesOn(t, rowBytes(values[i:i+1]))
		for j := range values {
			agreesOn(t, rowBytes([]api.Val{values[i], values[j]}))
			for k := range values {
				row := rowBytes([]api.Val{values[i], values[j], values[k]})
				agreesOn(t, row)
				agreesOn(t, append(twinBytes(list(keep(7))), row...))
			}
		}
	}
	// Rows of changes with one value replaced, left out or doubled.
	for _, c := range append(changes(), setEp(fullEp(1, 1)), setFeed(fullFeed(1))) {
		row := twinRow(c)
		for at := range row {
			for _, v := range values {
				other := slices.Clone(row)
				other[at] = v
				agreesOn(t, rowBytes(other))
				agreesOn(t, rowBytes(slices.Insert(slices.Clone(row), at, v)))
			}
			agreesOn(t, rowBytes(slices.Delete(slices.Clone(row), at, at+1)))
			agreesOn(t, rowBytes(row[:at]))
		}
	}
}

func FuzzChange(f *testing.F) {
	for _, s := range states() {
		f.Add(twinBytes(change.Whole(s)), []byte{1, 2, 3, 4, 5, 6, 7, 8, 9})
	}
	f.Add(twinBytes(changes()), []byte{0})
	f.Add([]byte{2, 2, 1, 'x', 1, 2, 5}, []byte("the quick brown fox jumps over the lazy dog"))
	f.Fuzz(func(t *testing.T, b, steps []byte) {
		agreesOn(t, b)
		l, _ := twinTake(b)
		agrees(t, change.Start(), l)
		next := func(n int) int {
			if len(steps) == 0 {
				return 0
			}
			step := int(steps[0])
			steps = steps[1:]
			return step % n
		}
		s := somebodysState(next)
		agrees(t, s, l)
		for len(steps) > 0 {
			l = append(l, somebodysChange(next))
		}
		agrees(t, s, l)
	})
}
