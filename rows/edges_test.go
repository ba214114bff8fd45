package rows_test

import (
	"math"
	"reflect"
	"strings"
	"testing"

	"newsreel/api"
	"newsreel/rows"
)

// edge is a field, values that it may have, and values that it may not.
type edge struct {
	name  string
	right []int64
	wrong []int64
}

// far are numbers that no field may have, among them those that are small in fewer bits.
func far() []int64 {
	return []int64{math.MinInt64, math.MinInt64 + 1, math.MaxInt64 - 1, math.MaxInt64, -1 << 62, 1 << 62, 1<<62 + 1, 1<<48 + 1, 1<<56 + 1, 1<<41 + 1, -1 << 48}
}

// narrow are numbers that no field of a small number may have, among them those that are small in fewer bits.
func narrow() []int64 {
	return []int64{1 << 32, 1<<32 + 1, 1<<32 + 2, 1<<33 + 3, -1<<32 + 1, -1<<32 + 2, 1 << 40, 1<<40 + 1, math.MinInt32, math.MaxInt32, math.MaxUint32, -256, -255, -65535}
}

// numberEdges are those of the fields that are numbers on their own.
func numberEdges() []edge {
	const count, size = 1048576, 1099511627776
	ids := edge{"", []int64{1, 2, 255, 256, 257, 65536, 65537, count - 1, count}, append(narrow(), 0, -1, -2, count+1, count+2)}
	counts := edge{"", append([]int64{0}, ids.right...), append(narrow(), -1, -2, count+1, count+2)}
	sizes := edge{"", []int64{0, 1, 2, count, count + 1, 1<<32 - 1, 1 << 32, 1<<32 + 1, size - 1, size}, []int64{-1, -2, size + 1, size + 2, -size}}
	unknown := edge{"", append([]int64{-1}, sizes.right...), []int64{-2, -3, size + 1, size + 2, -size}}
	return []edge{
		{"Id", ids.right, ids.wrong},
		{"Feed", ids.right, ids.wrong},
		{"Gen", counts.right, counts.wrong},
		{"Fails", counts.right, counts.wrong},
		{"Tries", counts.right, counts.wrong},
		{"Next", sizes.right, sizes.wrong},
		{"Pos", sizes.right, sizes.wrong},
		{"Long", unknown.right, unknown.wrong},
		{"Total", unknown.right, unknown.wrong},
		{"Date", []int64{-size, -size + 1, -1 << 32, -1, 0, 1, 1 << 32, size - 1, size}, []int64{-size - 1, -size - 2, size + 1, size + 2}},
		{"Size", []int64{0, 1, 2, 4096, 65535, 65536}, append(narrow(), -1, -2, 65537, 65538)},
		{"Hops", []int64{0, 1, 2, 3}, append(narrow(), -1, -2, 4, 5)},
	}
}

// textEdges are those of the fields that are texts on their own: their lengths.
func textEdges() []edge {
	named := edge{"", []int64{1, 2, 100, 199, 200}, []int64{0, 201, 202, 256, 257, 400, 4096, 4097, 65537}}
	optional := edge{"", append([]int64{0}, named.right...), named.wrong[1:]}
	return []edge{
		{"Url", named.right, named.wrong},
		{"Guid", named.right, named.wrong},
		{"Title", optional.right, optional.wrong},
		{"Tag", optional.right, optional.wrong},
		{"Cur", optional.right, optional.wrong},
	}
}

// change sets a field of what x points to: a number, or a text of so many bytes; it reports whether there is such a field.
func change(x any, name string, n int64) bool {
	field := reflect.ValueOf(x).Elem().FieldByName(name)
	if !field.IsValid() {
		return false
	}
	if field.Kind() == reflect.String {
		field.SetString(long(int(n)))
	} else {
		field.SetInt(n)
	}
	return true
}

// Ro1, Ro2: the bounds of each field.

func TestBoundsOfFeeds(t *testing.T) {
	met := 0
	for _, e := range append(numberEdges(), textEdges()...) {
		for _, f := range []api.Feed{fullFeed(), {Id: 1, Url: "u"}} {
			if !change(&f, e.name, e.right[0]) {
				continue
			}
			met++
			for _, n := range e.right {
				change(&f, e.name, n)
				rightFeed(t, f, feedRow(f))
			}
			for _, n := range wrongs(f, e) {
				change(&f, e.name, n)
				wrongFeed(t, f)
			}
		}
	}
	if met != 2*5 {
		t.Errorf("%d fields met", met)
	}
}

func TestBoundsOfEpisodes(t *testing.T) {
	met := 0
	for _, e := range append(numberEdges(), textEdges()...) {
		for _, x := range episodes() {
			// Only a published episode may have a size at all.
			if e.name == "Size" && x.St != 3 || !change(&x, e.name, e.right[0]) {
				continue
			}
			met++
			for _, n := range e.right {
				change(&x, e.name, n)
				rightEp(t, x, epRow(x))
			}
			for _, n := range wrongs(x, e) {
				change(&x, e.name, n)
				wrongEp(t, x)
			}
		}
	}
	// Of the 20 fields, St, Why, Pinned and Sha have tests of their own.
	if met != 15*11+3 {
		t.Errorf("%d fields met", met)
	}
}

// wrongs returns the values that a field may not have, for a number also those far off.
func wrongs(x any, e edge) []int64 {
	if reflect.ValueOf(x).FieldByName(e.name).Kind() == reflect.String {
		return e.wrong
	}
	return append(far(), e.wrong...)
}

func TestSizesOfUnpublishedEpisodes(t *testing.T) {
	for _, x := range episodes() {
		if x.St == 3 {
			continue
		}
		for _, n := range append(far(), 1, 2, -1, 65535, 65536, 65537, 1<<32) {
			x.Size = n
			wrongEp(t, x)
		}
	}
}

func TestTwoWrongFields(t *testing.T) {
	x := fullEp()
	x.Id, x.Hops = 0, 4
	wrongEp(t, x)
	x = fullEp()
	x.Guid, x.Sha = "", ""
	wrongEp(t, x)
	wrongFeed(t, api.Feed{Id: 0, Url: ""})
	wrongFeed(t, api.Feed{Id: 1, Url: "", Fails: -1})
}

func TestTextsOfAnyBytes(t *testing.T) {
	// Bytes count, not characters, and every byte may be in a text: 100 of these are 200 bytes.
	every := make([]byte, 128)
	for i := range every {
		every[i] = byte(2 * i)
	}
	for _, s := range []string{"\x00", "\xff", " ", "\n", "é", string(every), strings.Repeat("é", 100), strings.Repeat("\x00", 200), strings.Repeat("\xff", 200)} {
		f := api.Feed{Id: 1, Url: s, Tag: s}
		rightFeed(t, f, feedRow(f))
		x := leastEp(2)
		x.Guid, x.Url, x.Title, x.Cur, x.Tag = s, s, s, s, s
		rightEp(t, x, epRow(x))
	}
	x := leastEp(2)
	x.Title = strings.Repeat("é", 101)
	wrongEp(t, x)
	wrongFeed(t, api.Feed{Id: 1, Url: strings.Repeat("é", 100) + "x"})
}

// Ro1, Ro2: states.

func TestStateWithEachWhy(t *testing.T) {
	for state := 1; state <= 5; state++ {
		for why := -1; why <= 5; why++ {
			x := leastEp(state)
			x.Why = why
			if state == 4 && why >= 1 && why <= 4 || state != 4 && why == 0 {
				rightEp(t, x, epRow(x))
			} else {
				wrongEp(t, x)
			}
		}
		for _, why := range append(far(), append(narrow(), -2, 6)...) {
			x := leastEp(state)
			x.Why = int(why)
			wrongEp(t, x)
		}
	}
}

func TestStateWithShaAndSize(t *testing.T) {
	for state := 1; state <= 5; state++ {
		for _, sha := range []string{"", hash} {
			for _, size := range []int64{0, 1, 65536} {
				x := leastEp(state)
				x.Sha, x.Size = sha, size
				if state == 3 && sha != "" || state != 3 && sha == "" && size == 0 {
					rightEp(t, x, epRow(x))
				} else {
					wrongEp(t, x)
				}
			}
		}
	}
}

func TestNoState(t *testing.T) {
	for _, state := range append(far(), append(narrow(), -2, -1, 0, 6, 7)...) {
		for _, x := range episodes() {
			x.St = int(state)
			wrongEp(t, x)
		}
	}
}

func TestPinned(t *testing.T) {
	for _, x := range episodes() {
		for _, pinned := range []bool{false, true} {
			x.Pinned = pinned
			rightEp(t, x, epRow(x))
		}
		row := epRow(x)
		for _, n := range append(far(), append(narrow(), -2, -1, 2, 3, 256, 257)...) {
			row[10] = num(n)
			noEp(t, row)
		}
	}
}

// Ro1, Ro2: hashes.

func TestLengthsOfSha(t *testing.T) {
	for _, n := range []int{0, 1, 2, 32, 62, 63, 65, 66, 128, 200, 201, 320} {
		for _, x := range episodes() {
			if x.St != 3 && n == 0 {
				continue
			}
			x.Sha = strings.Repeat("0", n)
			wrongEp(t, x)
		}
	}
	x := leastEp(3)
	for _, digit := range "0189abef" {
		x.Sha = strings.Repeat(string(digit), 64)
		rightEp(t, x, epRow(x))
	}
}

func TestDigitsOfSha(t *testing.T) {
	for place := range 64 {
		for c := range 256 {
			x := leastEp(3)
			x.Sha = hash[:place] + string([]byte{byte(c)}) + hash[place+1:]
			right := c >= 48 && c <= 57 || c >= 97 && c <= 102
			if got := rows.EpRight(x); got != right {
				t.Fatalf("EpRight with byte %d at %d of Sha = %t", c, place, got)
			}
			if place%21 != 0 {
				continue
			}
			if right {
				rightEp(t, x, epRow(x))
			} else {
				wrongEp(t, x)
			}
		}
	}
}

func TestShaOfCharacters(t *testing.T) {
	x := leastEp(3)
	for _, sha := range []string{strings.Repeat("é", 32), strings.Repeat("é", 64), strings.ToUpper(hash), strings.Repeat("０", 64), hash[:62] + "é", " " + hash[1:], hash[:63] + "\n"} {
		x.Sha = sha
		wrongEp(t, x)
	}
}
