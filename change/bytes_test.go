package change_test

import (
	"slices"
	"testing"

	"newsreel/api"
	"newsreel/change"
	"newsreel/code"
)

// bad are bytes that Take of layer 7 does not accept, with its error.
type bad struct {
	b   []byte
	err api.Errno
}

// bads are some for each of its errors; the bytes may go on, but for those that are short.
func bads() []bad {
	return []bad{
		{[]byte{128}, api.ErrShort},
		{[]byte{1}, api.ErrShort},
		{[]byte{2, 2, 4, 'k', 'e', 'e', 'p'}, api.ErrShort},
		{[]byte{2, 2, 4, 'k', 'e', 'e', 'p', 1}, api.ErrShort},
		{[]byte{2, 2, 4, 'k', 'e', 'e', 'p', 1, 128}, api.ErrShort},
		{[]byte{2, 2, 4, 'k', 'e', 'e'}, api.ErrShort},
		{[]byte{128, 0}, api.ErrForm},
		{[]byte{2, 2, 4, 'k', 'e', 'e', 'p', 1, 142, 0}, api.ErrForm},
		{[]byte{2, 2, 132, 0, 'k', 'e', 'e', 'p', 1, 14}, api.ErrForm},
		{[]byte{233, 7}, api.ErrLong},
		{[]byte{1, 2, 129, 32}, api.ErrLong},
		{[]byte{1, 0}, api.ErrKind},
		{[]byte{1, 3}, api.ErrKind},
		{[]byte{2, 2, 4, 'k', 'e', 'e', 'p', 3, 14}, api.ErrKind},
	}
}

// Ch3: Put.

func TestPutOfWrongChanges(t *testing.T) {
	noPut(t, list(api.Change{}))
	noPut(t, list(keep(0)))
	l := changes()
	for at := range len(l) + 1 {
		noPut(t, slices.Insert(slices.Clone(l), at, keep(101)))
		noPut(t, slices.Insert(slices.Clone(l), at, setFeed(api.Feed{Id: 1, Url: "u", Fails: -1})))
		noPut(t, slices.Insert(slices.Clone(l), at, setEp(ep(0, 1, "g"))))
	}
}

func TestPutIsThatOfLayer7(t *testing.T) {
	var want []byte
	for _, c := range changes() {
		b, err := code.Put(twinRow(c))
		if err != api.OK {
			t.Fatalf("code.Put = %d", err)
		}
		want = append(want, b...)
	}
	coded(t, changes(), want)
	for _, s := range states() {
		coded(t, change.Whole(s), twinBytes(change.Whole(s)))
	}
}

// Ch3: Take.

func TestNoBytes(t *testing.T) {
	for _, b := range [][]byte{nil, {}} {
		if got, err := change.Take(b); err != api.OK || len(got) != 0 {
			t.Errorf("Take of no bytes = %v, %d", short(got), err)
		}
	}
	for _, l := range [][]api.Change{nil, {}} {
		if got, err := change.Put(l); err != api.OK || len(got) != 0 {
			t.Errorf("Put of no changes = %v, %d", start(got), err)
		}
	}
}

func TestBytesCutOff(t *testing.T) {
	for _, c := range changes() {
		before := twinBytes(list(keep(7)))
		b := twinBytes(list(c))
		for n := 1; n < len(b); n++ {
			noTake(t, b[:n], api.ErrShort)
			noTake(t, append(slices.Clone(before), b[:n]...), api.ErrShort)
		}
	}
}

func TestMoreBytesBehind(t *testing.T) {
	for _, c := range changes() {
		b := twinBytes(list(c))
		noTake(t, append(slices.Clone(b), 0), api.ErrForm)
		noTake(t, append(slices.Clone(b), 1), api.ErrShort)
		noTake(t, append(slices.Clone(b), 2, 2, 4), api.ErrShort)
		coded(t, list(c, c), append(slices.Clone(b), b...))
	}
}

func TestErrorsOfLayer7(t *testing.T) {
	for _, bad := range bads() {
		noTake(t, bad.b, bad.err)
		for _, l := range [][]api.Change{list(keep(7)), changes()} {
			noTake(t, append(twinBytes(l), bad.b...), bad.err)
		}
	}
}

func TestFirstRowThatIsWrong(t *testing.T) {
	// The rows are read one after the other: of two that are wrong, the first one tells the error.
	none := rowBytes([]api.Val{text("keep"), num(0)})
	for _, bad := range bads() {
		noTake(t, append(slices.Clone(none), bad.b...), api.ErrForm)
		noTake(t, slices.Concat(twinBytes(list(keep(7))), none, bad.b), api.ErrForm)
		if bad.err != api.ErrShort {
			noTake(t, append(slices.Clone(bad.b), none...), bad.err)
		}
	}
}

func TestRowsOfNoChange(t *testing.T) {
	for _, row := range [][]api.Val{
		{},
		{text("")}, {text("keep")}, {text("drop")}, {text("ids")}, {text("feed")}, {text("ep")}, {num(7)}, {num(0)},
		{text("keep"), num(0)}, {text("keep"), num(101)}, {text("keep"), num(-1)},
		{text("drop"), num(0)}, {text("drop"), num(1048577)},
		{text("quota"), num(-1)}, {text("quota"), num(1099511627777)},
		{text("ids"), num(0), num(1)}, {text("ids"), num(1), num(0)}, {text("ids"), num(1048578), num(1)}, {text("ids"), num(1), num(1048578)},
		{text("keep"), text("7")}, {text("keep"), text("")}, {text("quota"), text("")}, {text("quota"), text("0")}, {text("drop"), text("\x01")},
		{num(0), num(7)}, {num(4), num(7)}, {num(7), text("keep")},
		{text("ids"), num(1), text("")}, {text("ids"), text(""), num(1)}, {text("ids"), text("a"), text("b")},
		{text("keep"), num(7), num(0)}, {text("keep"), num(7), num(7)}, {text("quota"), num(7), num(0)}, {text("drop"), num(7), num(0)}, {text("keep"), num(7), text("")},
		{text("ids"), num(1)}, {text("ids"), num(1), num(1), num(0)}, {text("ids"), num(1), num(1), num(1)}, {text("ids"), num(1), num(1), text("")},
		{text("Keep"), num(7)}, {text("KEEP"), num(7)}, {text("keep "), num(7)}, {text(" keep"), num(7)}, {text("kee"), num(7)}, {text("keeps"), num(7)}, {text("keep\x00"), num(7)}, {text(""), num(7)},
		{text("feed"), num(7)}, {text("ep"), num(7)}, {text("feed"), num(7), num(7)}, {text("x"), num(7)},
		{text("drops"), num(7)}, {text("id"), num(7), num(7)}, {text("Quota"), num(7)}, {text("Ids"), num(7), num(7)},
	} {
		b := rowBytes(row)
		noTake(t, b, api.ErrForm)
		noTake(t, append(twinBytes(list(quota(0))), b...), api.ErrForm)
		noTake(t, append(b, twinBytes(list(quota(0)))...), api.ErrForm)
	}
}

func TestRowsWithAnotherFirstText(t *testing.T) {
	words := []string{"feed", "drop", "ep", "keep", "quota", "ids", "", "x", "Feed", "EP", "change"}
	for _, c := range append(changes(), setFeed(feed(1, "u")), setEp(fullEp(2, 1))) {
		row := twinRow(c)
		own := row[0].T
		for _, word := range words {
			row[0] = text(word)
			b := rowBytes(row)
			other, numbered := twinRead(row)
			switch {
			case word == own:
				coded(t, list(c), b)
			case len(row) == 2 && numbered:
				// The number of one kind may be that of another one.
				coded(t, list(other), b)
			default:
				noTake(t, b, api.ErrForm)
			}
			if numbered && word != own && len(row) != 2 {
				t.Errorf("%v is a change after the chapter's words", row)
			}
		}
		row[0] = num(1)
		noTake(t, rowBytes(row), api.ErrForm)
	}
}

func TestRowsOfOtherLengths(t *testing.T) {
	for _, c := range append(changes(), setFeed(feed(1, "u")), setEp(fullEp(2, 1))) {
		row := twinRow(c)
		for n := range row {
			// The row of a ChIds is longer than that of others, but has another text.
			noTake(t, rowBytes(row[:n]), api.ErrForm)
		}
		for _, v := range []api.Val{num(0), num(1), text(""), text("x")} {
			noTake(t, rowBytes(append(slices.Clone(row), v)), api.ErrForm)
			noTake(t, rowBytes(append([]api.Val{v}, row...)), api.ErrForm)
		}
		for _, n := range []int{21, 100, 1000} {
			long := slices.Clone(row)
			for len(long) < n {
				long = append(long, num(1))
			}
			if len(long) != len(row) {
				noTake(t, rowBytes(long), api.ErrForm)
			}
		}
		noTake(t, rowBytes(append(slices.Clone(row), make([]api.Val, 1001-len(row))...)), api.ErrLong)
	}
}

func TestBoundsInRows(t *testing.T) {
	for _, n := range append(far(), append(narrow(), -1, 0, 1, 2, 100, 101, 1048576, 1048577, 1048578, 1099511627776, 1099511627777)...) {
		for _, row := range [][]api.Val{{text("drop"), num(n)}, {text("keep"), num(n)}, {text("quota"), num(n)}, {text("ids"), num(n), num(1)}, {text("ids"), num(1), num(n)}, {text("ids"), num(n), num(n)}} {
			agreesOn(t, rowBytes(row))
		}
	}
}

func TestEveryByteOfSomeRows(t *testing.T) {
	for _, c := range list(keep(7), ids(1, 2), setFeed(feed(1, "u")), setEp(ep(1, 1, "g"))) {
		b := twinBytes(list(c, drop(1)))
		for at := range b {
			other := slices.Clone(b)
			for v := range 256 {
				other[at] = byte(v)
				agreesOn(t, other)
			}
		}
	}
}

func TestManyChanges(t *testing.T) {
	l := slices.Repeat(changes(), 300)
	coded(t, l, slices.Repeat(twinBytes(changes()), 300))
	many := slices.Repeat(list(keep(1), quota(2), drop(3)), 10000)
	coded(t, many, twinBytes(many))
	applied(t, change.Start(), many, api.State{Keep: 1, Quota: 2, NextFeed: 1, NextEp: 1})
}
