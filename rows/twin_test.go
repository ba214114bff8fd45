package rows_test

import (
	"reflect"
	"strings"

	"newsreel/api"
)

// The fields of the rows, in the order of the chapter.
const (
	feedFields = "Id, Url, Tag, Next, Fails"
	epFields   = "Id, Feed, Guid, Url, Title, Date, Long, St, Why, Pinned, Pos, Tries, Next, Cur, Hops, Gen, Tag, Total, Size, Sha"
)

// span is the least and the greatest value of a number, or length of a text.
type span struct{ lo, hi int64 }

// bounds returns those of a field by its name; for St, Why and Sha, of which the chapter says more, the widest ones.
func bounds(name string) span {
	switch name {
	case "Id", "Feed":
		return span{1, 1048576}
	case "Gen", "Fails", "Tries":
		return span{0, 1048576}
	case "Next", "Pos":
		return span{0, 1099511627776}
	case "Long", "Total":
		return span{-1, 1099511627776}
	case "Date":
		return span{-1099511627776, 1099511627776}
	case "Size":
		return span{0, 65536}
	case "Hops":
		return span{0, 3}
	case "Url", "Guid":
		return span{1, 200}
	case "Title", "Tag", "Cur":
		return span{0, 200}
	case "St":
		return span{1, 5}
	case "Why":
		return span{0, 4}
	case "Pinned":
		return span{0, 1}
	case "Sha":
		return span{0, 64}
	}
	panic("the chapter names no field " + name)
}

// measure returns the number of a field, or the length of its text.
func measure(v reflect.Value) int64 {
	switch v.Kind() {
	case reflect.String:
		return int64(len(v.String()))
	case reflect.Bool:
		if v.Bool() {
			return 1
		}
		return 0
	}
	return v.Int()
}

// within reports whether all fields of a struct are within their bounds.
func within(x any, names string) bool {
	v := reflect.ValueOf(x)
	if v.NumField() != len(strings.Split(names, ", ")) {
		panic("the row has not all fields")
	}
	for name := range strings.SplitSeq(names, ", ") {
		if n, b := measure(v.FieldByName(name)), bounds(name); n < b.lo || n > b.hi {
			return false
		}
	}
	return true
}

// twinFeedRight does what the chapter says of a valid feed.
func twinFeedRight(f api.Feed) bool { return within(f, feedFields) }

// twinEpRight does what the chapter says of a valid episode.
func twinEpRight(x api.Ep) bool {
	failed, published := x.St == 4, x.St == 3
	if failed != (x.Why != 0) || !published && (x.Size != 0 || x.Sha != "") {
		return false
	}
	if published && (len(x.Sha) != 64 || strings.ContainsFunc(x.Sha, foreign)) {
		return false
	}
	return within(x, epFields)
}

// foreign reports whether a character is none of a hash.
func foreign(r rune) bool { return !strings.ContainsRune("0123456789abcdef", r) }

// twinRow returns the row of the fields of a struct, whether it is valid or not.
func twinRow(word string, x any, names string) []api.Val {
	l := []api.Val{{Kind: 2, T: word}}
	for name := range strings.SplitSeq(names, ", ") {
		v := reflect.ValueOf(x).FieldByName(name)
		if v.Kind() == reflect.String {
			l = append(l, api.Val{Kind: 2, T: v.String()})
		} else {
			l = append(l, api.Val{Kind: 1, N: measure(v)})
		}
	}
	return l
}

// feedRow and epRow are the rows of feeds and episodes, whether they are valid or not.
func feedRow(f api.Feed) []api.Val { return twinRow("feed", f, feedFields) }
func epRow(x api.Ep) []api.Val     { return twinRow("ep", x, epFields) }

// twinTake sets the fields of a struct from a row, value by value, and reports whether each has the form of its field.
func twinTake(word string, l []api.Val, x any, names string) bool {
	fields := strings.Split(names, ", ")
	if len(l) != 1+len(fields) || l[0] != (api.Val{Kind: 2, T: word}) {
		return false
	}
	for i, name := range fields {
		if !set(reflect.ValueOf(x).Elem().FieldByName(name), l[1+i]) {
			return false
		}
	}
	return true
}

// set gives a field a value, if that has the form of the field.
func set(field reflect.Value, v api.Val) bool {
	if field.Kind() == reflect.String {
		field.SetString(v.T)
		return v.Kind == 2 && v.N == 0
	}
	if v.Kind != 1 || v.T != "" {
		return false
	}
	if field.Kind() == reflect.Bool {
		field.SetBool(v.N == 1)
		return v.N == 0 || v.N == 1
	}
	field.SetInt(v.N)
	return true
}

// twinTakeFeed does what the chapter says of TakeFeed.
func twinTakeFeed(l []api.Val) (api.Feed, api.Errno) {
	var f api.Feed
	if !twinTake("feed", l, &f, feedFields) || !twinFeedRight(f) {
		return api.Feed{}, api.ErrForm
	}
	return f, api.OK
}

// twinTakeEp does what the chapter says of TakeEp.
func twinTakeEp(l []api.Val) (api.Ep, api.Errno) {
	var x api.Ep
	if !twinTake("ep", l, &x, epFields) || !twinEpRight(x) {
		return api.Ep{}, api.ErrForm
	}
	return x, api.OK
}
