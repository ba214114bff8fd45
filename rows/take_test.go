package rows_test

import (
	"cmp"
	"math"
	"slices"
	"testing"

	"newsreel/api"
	"newsreel/rows"
)

// rowsOf are rows of valid feeds and episodes.
func rowsOf() [][]api.Val {
	list := [][]api.Val{feedRow(fullFeed()), feedRow(api.Feed{Id: 1, Url: "u"})}
	for _, x := range episodes() {
		list = append(list, epRow(x))
	}
	return list
}

// refused fails the test unless a row is neither a feed's nor an episode's.
func refused(t *testing.T, row []api.Val) {
	t.Helper()
	noFeed(t, row)
	noEp(t, row)
}

// agrees fails the test unless Take returns for a row what the chapter's words say, and Put returns the row for what is accepted.
func agrees(t *testing.T, row []api.Val) {
	t.Helper()
	if f, err := twinTakeFeed(row); err == api.OK {
		rightFeed(t, f, row)
	} else {
		noFeed(t, row)
	}
	if x, err := twinTakeEp(row); err == api.OK {
		rightEp(t, x, row)
	} else {
		noEp(t, row)
	}
}

// Ro2: rows of another form.

func TestLengthsOfRows(t *testing.T) {
	refused(t, nil)
	refused(t, []api.Val{})
	for _, row := range rowsOf() {
		for n := range row {
			refused(t, row[:n])
		}
		for _, v := range []api.Val{num(0), text(""), num(1), text("x"), {}} {
			refused(t, append(slices.Clone(row), v))
			refused(t, append([]api.Val{v}, row...))
			refused(t, slices.Insert(slices.Clone(row), 1, v))
		}
		for at := range row {
			refused(t, slices.Delete(slices.Clone(row), at, at+1))
		}
		refused(t, slices.Concat(row, row))
		refused(t, slices.Concat(row, make([]api.Val, 1000)))
		refused(t, slices.Concat(row, make([]api.Val, 100000)))
	}
	for n := range 40 {
		refused(t, make([]api.Val, n))
		refused(t, slices.Repeat([]api.Val{text("ep")}, n))
		refused(t, slices.Repeat([]api.Val{text("feed")}, n))
		refused(t, slices.Repeat([]api.Val{num(1)}, n))
	}
}

func TestFirstTexts(t *testing.T) {
	for _, row := range rowsOf() {
		for _, word := range []string{"", "f", "fee", "Feed", "FEED", "feeds", "feed ", " feed", "feed\x00", "e", "Ep", "EP", "eps", "ep ", "epfeed", "x", long(201), long(5000)} {
			row[0] = text(word)
			refused(t, row)
		}
		for _, n := range []int64{0, 1, 2, -1} {
			row[0] = num(n)
			refused(t, row)
		}
	}
}

func TestRowsOfTheOther(t *testing.T) {
	for _, row := range rowsOf() {
		if len(row) == 6 {
			noEp(t, row)
			row[0] = text("ep")
		} else {
			noFeed(t, row)
			row[0] = text("feed")
		}
		refused(t, row)
	}
	noEp(t, slices.Concat(feedRow(fullFeed()), epRow(fullEp())[6:]))
	noFeed(t, epRow(fullEp())[:6])
}

func TestForeignValues(t *testing.T) {
	for _, row := range rowsOf() {
		for at, v := range row {
			other := slices.Clone(row)
			for _, bad := range foreignValues(v) {
				other[at] = bad
				refused(t, other)
			}
		}
	}
}

// foreignValues are values that cannot stand in place of v, whatever its field: of another kind, or with a number and a text.
func foreignValues(v api.Val) []api.Val {
	list := []api.Val{{}, {N: v.N, T: v.T}, {Kind: 3 - v.Kind, N: v.N, T: v.T}}
	for _, kind := range []int{-1, -2, 3, 4, 255, 256, 257, 258, 1<<32 + 1, 1<<32 + 2, math.MaxInt, math.MinInt} {
		list = append(list, api.Val{Kind: kind, N: v.N, T: v.T}, api.Val{Kind: kind})
	}
	if v.Kind == 1 {
		return append(list, text(""), text("0"), text("1"), text("u"), text(hash), api.Val{Kind: 1, N: v.N, T: "x"}, api.Val{Kind: 1, N: v.N, T: "\x00"}, api.Val{Kind: 1, N: v.N, T: "1"})
	}
	list = append(list, num(0), num(1), num(-1), num(200))
	for _, n := range []int64{1, -1, 2, 1 << 32, math.MinInt64, math.MaxInt64} {
		list = append(list, api.Val{Kind: 2, N: n, T: v.T})
	}
	return list
}

func TestNumbersThatWrap(t *testing.T) {
	// In 8, 16 or 32 bits each of these is the number that stands there.
	for _, row := range rowsOf() {
		for at, v := range row {
			if v.Kind != 1 {
				continue
			}
			for _, bits := range []int{8, 16, 32, 48, 62, 63} {
				for _, n := range []int64{v.N + 1<<bits, v.N - 1<<bits} {
					other := slices.Clone(row)
					other[at] = num(n)
					agrees(t, other)
					if bits >= 48 || bits == 32 && !slices.Contains([]int{6, 7, 11, 13, 18}, at) && len(row) == 21 {
						refused(t, other)
					}
				}
			}
		}
	}
}

// Ro1 to Ro3: everything that stands in a row, in place of everything else.

func TestOtherValues(t *testing.T) {
	var pool []api.Val
	for _, e := range append(numberEdges(), textEdges()...) {
		for _, n := range append(e.right, e.wrong...) {
			pool = append(pool, num(n), text(long(int(max(0, n)%5000))))
		}
	}
	for _, n := range far() {
		pool = append(pool, num(n))
	}
	for _, row := range rowsOf() {
		pool = append(pool, row...)
	}
	slices.SortFunc(pool, func(a, b api.Val) int {
		return cmp.Or(cmp.Compare(a.Kind, b.Kind), cmp.Compare(a.N, b.N), cmp.Compare(a.T, b.T))
	})
	pool = slices.Compact(pool)
	for _, row := range rowsOf() {
		for at := range row {
			other := slices.Clone(row)
			for _, v := range pool {
				other[at] = v
				agrees(t, other)
			}
		}
	}
}

func TestSwappedValues(t *testing.T) {
	for _, row := range rowsOf() {
		for i := range row {
			for k := range row {
				other := slices.Clone(row)
				other[i], other[k] = other[k], other[i]
				agrees(t, other)
			}
		}
	}
}

// Ro3: Take inverts Put, and Put inverts Take.

func FuzzRows(f *testing.F) {
	f.Add(1, 0, 2, 1, int64(0), int64(-1), int64(9), 0, true, "u", "", "g", byte(0), 0)
	f.Add(7, 3, 3, 0, int64(-5), int64(5), int64(5), 1, false, "u", hash, "t", byte(200), 20)
	f.Add(7, 3, 4, 2, int64(1<<40), int64(1<<40), int64(0), 3, false, "http://f/a", "", "t", byte(10), 2)
	f.Fuzz(func(t *testing.T, id, count, st, why int, date, long, size int64, hops int, pinned bool, url, sha, tag string, kind byte, at int) {
		feed := api.Feed{Id: id, Url: url, Tag: tag, Next: size, Fails: count}
		if twinFeedRight(feed) {
			rightFeed(t, feed, feedRow(feed))
		} else {
			wrongFeed(t, feed)
		}
		x := api.Ep{
			Id: id, Feed: id, Guid: url, Url: url, Title: tag, Date: date, Long: long, St: st, Why: why,
			Pinned: pinned, Pos: max(0, date), Tries: count, Next: max(0, date), Cur: tag, Hops: hops, Gen: count,
			Tag: tag, Total: long, Size: size, Sha: sha,
		}
		if twinEpRight(x) {
			rightEp(t, x, epRow(x))
		} else {
			wrongEp(t, x)
		}
		// A value of any kind, with a number and a text, at any place of a row that may have any length.
		v := api.Val{Kind: int(kind), N: date, T: tag}
		for _, row := range [][]api.Val{feedRow(feed), epRow(x), feedRow(fullFeed()), epRow(fullEp())} {
			row[((at%len(row))+len(row))%len(row)] = v
			agrees(t, row)
			agrees(t, row[:max(0, at)%(len(row)+1)])
			for i := range row {
				other := slices.Clone(row)
				other[i].Kind, other[i].N, other[i].T = 1+int(kind)%2, size, sha
				agrees(t, other)
			}
		}
	})
}

func TestTakeThenPut(t *testing.T) {
	for _, row := range rowsOf() {
		agrees(t, row)
		if f, err := rows.TakeFeed(row); err == api.OK {
			if back, again := rows.PutFeed(f); again != api.OK || !slices.Equal(back, row) {
				t.Errorf("PutFeed of what TakeFeed returned = %v, %d, want %v", brief(back), again, brief(row))
			}
		}
		if x, err := rows.TakeEp(row); err == api.OK {
			if back, again := rows.PutEp(x); again != api.OK || !slices.Equal(back, row) {
				t.Errorf("PutEp of what TakeEp returned = %v, %d, want %v", brief(back), again, brief(row))
			}
		}
	}
}
