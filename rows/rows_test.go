package rows_test

import (
	"slices"
	"strings"
	"testing"

	"newsreel/api"
	"newsreel/code"
	"newsreel/rows"
)

// hash is that of no bytes, and has every kind of digit.
const hash = "e3b0c44298fc1c149afbf4c8996fb92427ae41e4649b934ca495991b7852b855"

// num and text make values without the package's help.
func num(n int64) api.Val   { return api.Val{Kind: 1, N: n} }
func text(s string) api.Val { return api.Val{Kind: 2, T: s} }

// long returns a text of n bytes.
func long(n int) string { return strings.Repeat("x", n) }

// fullFeed is a valid feed, no two fields of which have the same value.
func fullFeed() api.Feed {
	return api.Feed{Id: 11, Url: "http://f/a", Tag: "\"t\"", Next: 14, Fails: 15}
}

// fullEp is a valid episode, no two fields of which have the same value.
func fullEp() api.Ep {
	return api.Ep{
		Id: 21, Feed: 22, Guid: "guid", Url: "http://f/b", Title: "title", Date: -26, Long: 27, St: 3, Why: 0,
		Pinned: true, Pos: 31, Tries: 32, Next: 33, Cur: "http://g/c", Hops: 2, Gen: 36, Tag: "\"u\"", Total: 38,
		Size: 39, Sha: hash,
	}
}

// leastEp is the valid episode of a state with as many zero values as there may be.
func leastEp(state int) api.Ep {
	x := api.Ep{Id: 1, Feed: 1, Guid: "g", Url: "u", St: state}
	if state == 3 {
		x.Sha = hash
	}
	if state == 4 {
		x.Why = 1
	}
	return x
}

// episodes are valid ones, of every state, with few and many fields.
func episodes() []api.Ep {
	list := []api.Ep{fullEp()}
	for state := 1; state <= 5; state++ {
		x := fullEp()
		least := leastEp(state)
		x.St, x.Why, x.Size, x.Sha = state, least.Why, least.Size, least.Sha
		list = append(list, least, x)
	}
	return list
}

// brief returns a row with the beginnings of its texts: a failure need not tell all of them.
func brief(l []api.Val) []api.Val {
	head := slices.Clone(l[:min(len(l), 22)])
	for i := range head {
		head[i].T = head[i].T[:min(len(head[i].T), 12)]
	}
	return head
}

// rightFeed fails the test unless f is valid, has this row, and is what the row is taken for.
func rightFeed(t *testing.T, f api.Feed, row []api.Val) {
	t.Helper()
	if !rows.FeedRight(f) {
		t.Errorf("FeedRight of %v = false", brief(row))
	}
	if got, err := rows.PutFeed(f); err != api.OK || !slices.Equal(got, row) {
		t.Errorf("PutFeed = %v, %d, want %v", brief(got), err, brief(row))
	}
	if got, err := rows.TakeFeed(row); err != api.OK || got != f {
		t.Errorf("TakeFeed(%v) = %v, %d", brief(row), brief(feedRow(got)), err)
	}
}

// rightEp fails the test unless x is valid, has this row, and is what the row is taken for.
func rightEp(t *testing.T, x api.Ep, row []api.Val) {
	t.Helper()
	if !rows.EpRight(x) {
		t.Errorf("EpRight of %v = false", brief(row))
	}
	if got, err := rows.PutEp(x); err != api.OK || !slices.Equal(got, row) {
		t.Errorf("PutEp = %v, %d, want %v", brief(got), err, brief(row))
	}
	if got, err := rows.TakeEp(row); err != api.OK || got != x {
		t.Errorf("TakeEp(%v) = %v, %d", brief(row), brief(epRow(got)), err)
	}
}

// noFeed fails the test unless TakeFeed does not accept a row, and returns nothing beside the error.
func noFeed(t *testing.T, row []api.Val) {
	t.Helper()
	if got, err := rows.TakeFeed(row); err != api.ErrForm || got != (api.Feed{}) {
		t.Errorf("TakeFeed(%d values, %v) = %v, %d, want ErrForm", len(row), brief(row), brief(feedRow(got)), err)
	}
}

// noEp fails the test unless TakeEp does not accept a row, and returns nothing beside the error.
func noEp(t *testing.T, row []api.Val) {
	t.Helper()
	if got, err := rows.TakeEp(row); err != api.ErrForm || got != (api.Ep{}) {
		t.Errorf("TakeEp(%d values, %v) = %v, %d, want ErrForm", len(row), brief(row), brief(epRow(got)), err)
	}
}

// wrongFeed fails the test unless f is not valid, and neither has a row nor is in one.
func wrongFeed(t *testing.T, f api.Feed) {
	t.Helper()
	row := feedRow(f)
	if rows.FeedRight(f) {
		t.Errorf("FeedRight of %v = true", brief(row))
	}
	if got, err := rows.PutFeed(f); err != api.ErrArg || len(got) != 0 {
		t.Errorf("PutFeed = %v, %d, want ErrArg for %v", brief(got), err, brief(row))
	}
	noFeed(t, row)
}

// wrongEp fails the test unless x is not valid, and neither has a row nor is in one.
func wrongEp(t *testing.T, x api.Ep) {
	t.Helper()
	row := epRow(x)
	if rows.EpRight(x) {
		t.Errorf("EpRight of %v = true", brief(row))
	}
	if got, err := rows.PutEp(x); err != api.ErrArg || len(got) != 0 {
		t.Errorf("PutEp = %v, %d, want ErrArg for %v", brief(got), err, brief(row))
	}
	noEp(t, row)
}

// Ro1, Ro2: rows that are written out.

func TestExample(t *testing.T) {
	rightFeed(t, api.Feed{Id: 1, Url: "u"}, []api.Val{text("feed"), num(1), text("u"), text(""), num(0), num(0)})
}

func TestRowOfAFeed(t *testing.T) {
	rightFeed(t, fullFeed(), []api.Val{text("feed"), num(11), text("http://f/a"), text("\"t\""), num(14), num(15)})
}

func TestRowOfAnEpisode(t *testing.T) {
	rightEp(t, fullEp(), []api.Val{
		text("ep"), num(21), num(22), text("guid"), text("http://f/b"), text("title"), num(-26), num(27), num(3), num(0),
		num(1), num(31), num(32), num(33), text("http://g/c"), num(2), num(36), text("\"u\""), num(38), num(39),
		text("e3b0c44298fc1c149afbf4c8996fb92427ae41e4649b934ca495991b7852b855"),
	})
	rightEp(t, api.Ep{Id: 2, Feed: 1, Guid: "g", Url: "u", Long: -1, St: 4, Why: 3, Total: -1}, []api.Val{
		text("ep"), num(2), num(1), text("g"), text("u"), text(""), num(0), num(-1), num(4), num(3),
		num(0), num(0), num(0), num(0), text(""), num(0), num(0), text(""), num(-1), num(0), text(""),
	})
}

func TestRowsAreThoseOfLayer7(t *testing.T) {
	// With the longest texts too: no valid feed or episode has a row that cannot be encoded.
	f := api.Feed{Id: 1, Url: long(200), Tag: long(200)}
	x := leastEp(3)
	x.Guid, x.Url, x.Title, x.Cur, x.Tag = long(200), long(200), long(200), long(200), long(200)
	for _, row := range [][]api.Val{feedRow(f), epRow(x), feedRow(fullFeed()), epRow(fullEp())} {
		b, err := code.Put(row)
		back, n, again := code.Take(b)
		if err != api.OK || again != api.OK || n != len(b) || !slices.Equal(back, row) {
			t.Errorf("code.Put and Take of %v: %d, %d", brief(row), err, again)
		}
	}
	rightFeed(t, f, feedRow(f))
	rightEp(t, x, epRow(x))
}

func TestZeroValues(t *testing.T) {
	wrongFeed(t, api.Feed{})
	wrongEp(t, api.Ep{})
}

func TestStates(t *testing.T) {
	for _, x := range episodes() {
		rightEp(t, x, epRow(x))
	}
}

// R3 and R4: arguments and results.

func TestResultsAreNewMemory(t *testing.T) {
	for range 2 {
		row, _ := rows.PutFeed(fullFeed())
		other, _ := rows.PutFeed(fullFeed())
		clear(row)
		if !slices.Equal(other, feedRow(fullFeed())) {
			t.Errorf("PutFeed shares a row: %v", brief(other))
		}
	}
	for range 2 {
		row, _ := rows.PutEp(fullEp())
		other, _ := rows.PutEp(fullEp())
		clear(row)
		if !slices.Equal(other, epRow(fullEp())) {
			t.Errorf("PutEp shares a row: %v", brief(other))
		}
	}
}

func TestArgumentsStay(t *testing.T) {
	for _, row := range [][]api.Val{feedRow(fullFeed()), epRow(fullEp()), epRow(leastEp(4)), feedRow(api.Feed{}), epRow(api.Ep{}), {num(1)}} {
		// What lies behind the row in the same memory is not the function's either.
		memory := append(slices.Clone(row), num(77), text("behind"))
		before := slices.Clone(memory)
		rows.TakeFeed(memory[:len(row)])
		rows.TakeEp(memory[:len(row)])
		if !slices.Equal(memory, before) {
			t.Errorf("Take changes its argument %v to %v", brief(before), brief(memory))
		}
	}
}

func TestResultsDoNotHangOnEarlierCalls(t *testing.T) {
	row := epRow(fullEp())
	x, err := rows.TakeEp(row)
	clear(row)
	rows.PutEp(leastEp(1))
	rows.TakeEp(epRow(leastEp(5)))
	if err != api.OK || x != fullEp() {
		t.Errorf("TakeEp = %v, %d, after its row was cleared", brief(epRow(x)), err)
	}
	row = feedRow(fullFeed())
	f, err := rows.TakeFeed(row)
	clear(row)
	rows.PutFeed(api.Feed{Id: 1, Url: "u"})
	if err != api.OK || f != fullFeed() {
		t.Errorf("TakeFeed = %v, %d, after its row was cleared", brief(feedRow(f)), err)
	}
}
