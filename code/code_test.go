package code_test

import (
	"bytes"
	"encoding/binary"
	"math"
	"slices"
	"strings"
	"testing"

	"newsreel/api"
	"newsreel/code"
	"newsreel/vary"
)

// row returns a row of the values given.
func row(l ...api.Val) []api.Val { return l }

// num and text make values without the package's help.
func num(n int64) api.Val   { return api.Val{Kind: 1, N: n} }
func text(s string) api.Val { return api.Val{Kind: 2, T: s} }

// long returns a text of n bytes.
func long(n int) string { return strings.Repeat("x", n) }

// many returns a row of n times the same value.
func many(n int, v api.Val) []api.Val { return slices.Repeat(row(v), n) }

// join returns the bytes of all parts, in new memory.
func join(parts ...[]byte) []byte { return slices.Concat(parts...) }

// fill returns n bytes that are all x.
func fill(n int, x byte) []byte { return bytes.Repeat([]byte{x}, n) }

// numbers are the ends of int64, 0, and those where an encoding gets longer.
func numbers() []int64 {
	list := []int64{0, math.MinInt64, math.MinInt64 + 1, math.MaxInt64 - 1, math.MaxInt64, api.MaxSize, -api.MaxSize}
	for i := range 63 {
		power := int64(1) << i
		list = append(list, power-1, power, power+1, -power-1, -power, -power+1)
	}
	return list
}

// texts are of lengths where something changes, and of bytes that mean something elsewhere in an encoding or are no UTF-8.
func texts() []string {
	list := []string{"", "a", "\x00", "\x01", "\x02", "\x03", "\x80", "\xff", "\x00\x00", "\x02\x01a", "a\x00b", "é", "\xc3", "\xed\xa0\x80", "日本"}
	for _, n := range []int{2, 126, 127, 128, 129, 200, 201, 255, 256, 4095, 4096} {
		list = append(list, long(n))
	}
	every := make([]byte, 256)
	for i := range every {
		every[i] = byte(i)
	}
	return append(list, string(every))
}

// validRows are rows of no, one, two and many values.
func validRows() [][]api.Val {
	list := [][]api.Val{nil, {}, many(127, num(1)), many(128, text("a")), many(999, num(0)), many(1000, num(-1)), many(1000, text(""))}
	var all []api.Val
	for _, n := range numbers() {
		all = append(all, num(n))
		list = append(list, row(num(n)), row(num(n), text("t")), row(text("t"), num(n)))
	}
	for _, s := range texts() {
		all = append(all, text(s))
		list = append(list, row(text(s)), row(text(s), num(7)), row(num(7), text(s)), row(text(s), text(s)))
	}
	return append(list, all)
}

// invalidValues are all the ways in which a value can be wrong.
func invalidValues() []api.Val {
	list := []api.Val{
		{},
		{N: 5},
		{T: "a"},
		{Kind: 1, T: "a"},
		{Kind: 1, N: 5, T: "a"},
		{Kind: 1, T: "\x00"},
		{Kind: 1, T: long(4096)},
		{Kind: 1, T: long(4097)},
		{Kind: 2, N: 1},
		{Kind: 2, N: -1},
		{Kind: 2, N: 1, T: "a"},
		{Kind: 2, N: math.MinInt64, T: "a"},
		{Kind: 2, N: math.MaxInt64},
		{Kind: 2, N: 1 << 32},
		{Kind: 2, T: long(4097)},
		{Kind: 2, T: long(4098)},
		{Kind: 2, T: long(100000)},
		{Kind: 2, N: 1, T: long(4097)},
	}
	for _, kind := range []int{-1, -2, 3, 4, 5, 128, 255, 256, 257, 258, 1<<32 + 1, 1<<32 + 2, 1<<63 - 1, -1 << 63} {
		list = append(list, api.Val{Kind: kind}, api.Val{Kind: kind, N: 5}, api.Val{Kind: kind, T: "a"})
	}
	return list
}

// tails are bytes that may follow a row: none, those of other rows and values, those of which Take would complain alone, and many.
func tails() [][]byte {
	return [][]byte{nil, {}, {0}, {1}, {2}, {3}, {97}, {128}, {255}, {1, 2}, {2, 1, 97}, {128, 0}, {2, 1, 2, 2, 1, 97}, fill(20, 255), make([]byte, 5000)}
}

// encoded returns the encoding of a row by the library's integers, which are those of the chapter.
func encoded(l []api.Val) []byte {
	b := binary.AppendUvarint(nil, uint64(len(l)))
	for _, v := range l {
		if v.Kind == 1 {
			b = binary.AppendVarint(append(b, 1), v.N)
		} else {
			b = binary.AppendUvarint(append(b, 2), uint64(len(v.T)))
			b = append(b, []byte(v.T)...)
		}
	}
	return b
}

// literal does what the chapter says of Take word for word.
func literal(b []byte) ([]api.Val, int, api.Errno) {
	count, at, err := vary.Take(b)
	if err != api.OK {
		return nil, 0, err
	}
	if count > 1000 {
		return nil, 0, api.ErrLong
	}
	l := []api.Val{}
	for uint64(len(l)) < count {
		if at == len(b) {
			return nil, 0, api.ErrShort
		}
		kind := b[at]
		if kind != 1 && kind != 2 {
			return nil, 0, api.ErrKind
		}
		u, k, err := vary.Take(b[at+1:])
		if err != api.OK {
			return nil, 0, err
		}
		at += 1 + k
		if kind == 1 {
			l = append(l, num(vary.Zag(u)))
			continue
		}
		if u > 4096 {
			return nil, 0, api.ErrLong
		}
		if len(b)-at < int(u) {
			return nil, 0, api.ErrShort
		}
		l = append(l, text(string(b[at:at+int(u)])))
		at += int(u)
	}
	return l, at, api.OK
}

// brief returns the beginning of a row, with the beginnings of its texts: a failure need not tell all of it.
func brief(l []api.Val) []api.Val {
	head := slices.Clone(l[:min(len(l), 4)])
	for i := range head {
		head[i].T = head[i].T[:min(len(head[i].T), 20)]
	}
	return head
}

// start returns the beginning of a list of bytes.
func start(b []byte) []byte { return b[:min(len(b), 30)] }

// puts fails the test unless Put(l) returns these bytes and no error.
func puts(t *testing.T, l []api.Val, want []byte) {
	t.Helper()
	if got, err := code.Put(l); err != api.OK || !bytes.Equal(got, want) {
		t.Errorf("Put(%d values, the first %v) = %v, %d, want %v", len(l), brief(l), start(got), err, start(want))
	}
}

// refuses fails the test unless l is no valid row for Right and Put.
func refuses(t *testing.T, l []api.Val) {
	t.Helper()
	if code.Right(l) {
		t.Errorf("Right(%d values, the first %v) = true", len(l), brief(l))
	}
	if got, err := code.Put(l); err != api.ErrArg || len(got) != 0 {
		t.Errorf("Put(%d values, the first %v) = %v, %d, want ErrArg", len(l), brief(l), start(got), err)
	}
}

// takes fails the test unless Take(b) returns these results.
func takes(t *testing.T, b []byte, l []api.Val, n int, err api.Errno) {
	t.Helper()
	// slices.Equal regards a nil list and an empty one as equal, as R5 does.
	if gotL, gotN, gotErr := code.Take(b); !slices.Equal(gotL, l) || gotN != n || gotErr != err {
		t.Errorf("Take(%v) = %d values, the first %v, %d, %d, want %d, the first %v, %d, %d", start(b), len(gotL), brief(gotL), gotN, gotErr, len(l), brief(l), n, err)
	}
}

// fails fails the test unless Take(b) returns this error, and zero values beside it.
func fails(t *testing.T, b []byte, err api.Errno) {
	t.Helper()
	takes(t, b, nil, 0, err)
}

// agrees fails the test unless Take does with b what the chapter's words say, and what it accepts is valid and has these bytes.
func agrees(t *testing.T, b []byte) {
	t.Helper()
	want, n, err := literal(b)
	takes(t, b, want, n, err)
	if l, _, err := code.Take(b); err == api.OK {
		if !code.Right(l) {
			t.Errorf("Take(%v) returns a row that is not valid", start(b))
		}
		puts(t, l, b[:n])
	}
}

// Co1: Num and Text.

func TestNum(t *testing.T) {
	for _, n := range numbers() {
		if got := code.Num(n); got != (api.Val{Kind: api.VlNum, N: n}) {
			t.Errorf("Num(%d) = %v", n, got)
		}
		if !code.Right(row(code.Num(n))) {
			t.Errorf("Num(%d) is not valid", n)
		}
	}
}

func TestText(t *testing.T) {
	for _, s := range texts() {
		if got := code.Text(s); got != (api.Val{Kind: api.VlText, T: s}) {
			t.Errorf("Text(%.30q) = %v", s, got)
		}
		if !code.Right(row(code.Text(s))) {
			t.Errorf("Text(%.30q) is not valid", s)
		}
	}
}

func TestTextThatIsTooLong(t *testing.T) {
	// Text has no error: it returns the text as it is, and the value is not valid.
	for _, n := range []int{4097, 4098, 8192, 70000} {
		s := long(n)
		if got := code.Text(s); got != (api.Val{Kind: api.VlText, T: s}) {
			t.Errorf("Text of %d bytes has kind %d, number %d and %d bytes", n, got.Kind, got.N, len(got.T))
		}
		refuses(t, row(code.Text(s)))
	}
}

// Co1: Right.

func TestRight(t *testing.T) {
	for _, l := range validRows() {
		if !code.Right(l) {
			t.Errorf("Right(%d values, the first %v) = false", len(l), brief(l))
		}
	}
}

func TestValuesThatAreNotValid(t *testing.T) {
	for _, v := range invalidValues() {
		refuses(t, row(v))
		// One of them spoils the row, wherever it stands.
		for _, n := range []int{2, 3, 10} {
			for at := range n {
				for _, other := range row(num(1), text("a")) {
					l := many(n, other)
					l[at] = v
					refuses(t, l)
				}
			}
		}
	}
}

func TestLengthOfText(t *testing.T) {
	for n := range 4200 {
		if got, want := code.Right(row(text(long(n)))), n <= 4096; got != want {
			t.Errorf("Right of a text of %d bytes = %t", n, got)
		}
	}
	// Bytes are counted, not characters.
	if !code.Right(row(text(strings.Repeat("é", 2048)))) {
		t.Error("2048 characters of two bytes are not valid")
	}
	refuses(t, row(text(strings.Repeat("é", 2048)+"x")))
	refuses(t, row(text(strings.Repeat("é", 4096))))
}

func TestNumberOfValues(t *testing.T) {
	for _, v := range row(num(0), num(-1), num(math.MinInt64), text(""), text("ab")) {
		for _, n := range []int{0, 1, 127, 128, 999, 1000} {
			l := many(n, v)
			if !code.Right(l) {
				t.Errorf("Right of %d values %v = false", n, v)
			}
			puts(t, l, encoded(l))
		}
		for _, n := range []int{1001, 1002, 1024, 2000, 70000} {
			refuses(t, many(n, v))
		}
	}
	// The last of the greatest row is looked at as well.
	last := many(1000, num(0))
	last[999].T = "a"
	refuses(t, last)
	// Too many, the one too many not being valid either.
	last = many(1001, num(0))
	last[1000].T = "a"
	refuses(t, last)
}

func TestRoomBehindARowIsNotLookedAt(t *testing.T) {
	room := many(2000, api.Val{Kind: 9})
	copy(room, many(1000, num(5)))
	for _, n := range []int{0, 1, 2, 999, 1000} {
		if !code.Right(room[:n]) {
			t.Errorf("Right of %d values with room for 2000 = false", n)
		}
		puts(t, room[:n], encoded(many(n, num(5))))
	}
	refuses(t, room[:1001])
}

func TestGreatestRow(t *testing.T) {
	l := many(1000, text(long(4096)))
	b := encoded(l)
	puts(t, l, b)
	takes(t, b, l, 2+1000*(1+2+4096), api.OK)
	takes(t, join(b, []byte{2, 1, 97}), l, len(b), api.OK)
	fails(t, b[:len(b)-1], api.ErrShort)
}

// Co1: Put.

// examples are rows with their encodings, written out.
var examples = []struct {
	l []api.Val
	b []byte
}{
	{row(num(1), text("a")), []byte{2, 1, 2, 2, 1, 97}}, // the chapter's example
	{nil, []byte{0}},
	{row(), []byte{0}},
	{row(num(0)), []byte{1, 1, 0}},
	{row(num(-1)), []byte{1, 1, 1}},
	{row(num(1)), []byte{1, 1, 2}},
	{row(num(63)), []byte{1, 1, 126}},
	{row(num(-64)), []byte{1, 1, 127}},
	{row(num(64)), []byte{1, 1, 128, 1}},
	{row(num(150)), []byte{1, 1, 172, 2}},
	{row(num(math.MaxInt64)), join([]byte{1, 1, 254}, fill(8, 255), []byte{1})},
	{row(num(math.MinInt64)), join([]byte{1, 1}, fill(9, 255), []byte{1})},
	{row(text("")), []byte{1, 2, 0}},
	{row(text("a")), []byte{1, 2, 1, 97}},
	{row(text("\x00")), []byte{1, 2, 1, 0}},
	{row(text("\xff\x80")), []byte{1, 2, 2, 255, 128}},
	{row(text("é")), []byte{1, 2, 2, 195, 169}},
	{row(text(long(127))), join([]byte{1, 2, 127}, fill(127, 'x'))},
	{row(text(long(128))), join([]byte{1, 2, 128, 1}, fill(128, 'x'))},
	{row(text(long(4095))), join([]byte{1, 2, 255, 31}, fill(4095, 'x'))},
	{row(text(long(4096))), join([]byte{1, 2, 128, 32}, fill(4096, 'x'))},
	{row(text("a"), num(1)), []byte{2, 2, 1, 97, 1, 2}},
	{row(text(""), text(""), num(0)), []byte{3, 2, 0, 2, 0, 1, 0}},
	{row(num(-2), num(2), text("bc"), num(-3)), []byte{4, 1, 3, 1, 4, 2, 2, 98, 99, 1, 5}},
	{many(127, num(0)), join([]byte{127}, bytes.Repeat([]byte{1, 0}, 127))},
	{many(128, num(0)), join([]byte{128, 1}, bytes.Repeat([]byte{1, 0}, 128))},
	{many(1000, num(0)), join([]byte{232, 7}, bytes.Repeat([]byte{1, 0}, 1000))},
	{many(1000, text("")), join([]byte{232, 7}, bytes.Repeat([]byte{2, 0}, 1000))},
}

func TestExamples(t *testing.T) {
	for _, c := range examples {
		puts(t, c.l, c.b)
		takes(t, c.b, c.l, len(c.b), api.OK)
	}
}

func TestPut(t *testing.T) {
	for _, l := range validRows() {
		puts(t, l, encoded(l))
	}
}

// Co2: the number of values.

func TestTakeOfNoByte(t *testing.T) {
	fails(t, nil, api.ErrShort)
	fails(t, []byte{}, api.ErrShort)
}

func TestTakeOfWrongNumberOfValues(t *testing.T) {
	// What vary says of a number is what Take says of the number of values.
	for _, c := range []struct {
		b   []byte
		err api.Errno
	}{
		{[]byte{128}, api.ErrShort},
		{[]byte{232}, api.ErrShort},
		{fill(9, 255), api.ErrShort},
		{[]byte{128, 0}, api.ErrForm},
		{[]byte{129, 0, 1, 2}, api.ErrForm},
		{[]byte{232, 135, 0}, api.ErrForm}, // 1000 in one byte more than necessary
		{fill(10, 255), api.ErrForm},
		{join(fill(9, 128), []byte{2}), api.ErrForm},
	} {
		fails(t, c.b, c.err)
	}
}

func TestTakeOfManyValues(t *testing.T) {
	for _, n := range []uint64{0, 1, 2, 999, 1000, 1001, 1002, 1024, 2000, 1 << 32, 1<<32 + 1, 1 << 63, 1<<63 + 1, math.MaxUint64 - 1, math.MaxUint64} {
		head := vary.Put(n)
		values := bytes.Repeat([]byte{1, 2}, 2100)
		if n > 1000 {
			// Also where no value follows, or one that is wrong: the number comes first.
			fails(t, head, api.ErrLong)
			fails(t, join(head, []byte{3}), api.ErrLong)
			fails(t, join(head, []byte{1, 128, 0}), api.ErrLong)
			fails(t, join(head, values), api.ErrLong)
			continue
		}
		size := len(head) + 2*int(n)
		takes(t, join(head, values), many(int(n), num(1)), size, api.OK)
		if n > 0 {
			fails(t, join(head, values)[:size-1], api.ErrShort)
			fails(t, join(head, values)[:size-2], api.ErrShort)
			fails(t, head, api.ErrShort)
		}
	}
}

// Co2: the values.

func TestTakeOfEveryKind(t *testing.T) {
	for kind := range 256 {
		for _, rest := range [][]byte{nil, {0}, {2}, {1, 97}, {128}, {128, 0}, fill(10, 255)} {
			first := join([]byte{1, byte(kind)}, rest)
			second := join([]byte{2, 1, 5, byte(kind)}, rest)
			agrees(t, first)
			agrees(t, second)
			if kind != 1 && kind != 2 {
				fails(t, first, api.ErrKind)
				fails(t, second, api.ErrKind)
			}
		}
	}
}

func TestTakeOfLengths(t *testing.T) {
	room := make([]byte, 5000)
	for _, n := range []uint64{0, 1, 127, 128, 200, 201, 4095, 4096, 4097, 4098, 5000, 1 << 16, 1 << 32, 1<<32 + 1, 1 << 63, 1<<63 + 1, math.MaxUint64 - 1, math.MaxUint64} {
		head := join([]byte{1, 2}, vary.Put(n))
		if n > 4096 {
			// Also where there are fewer bytes: the limit comes first.
			fails(t, head, api.ErrLong)
			fails(t, join(head, room[:10]), api.ErrLong)
			fails(t, join(head, room), api.ErrLong)
			continue
		}
		whole := join(head, room[:n])
		takes(t, whole, row(text(string(room[:n]))), len(whole), api.OK)
		takes(t, join(head, room), row(text(string(room[:n]))), len(whole), api.OK)
		if n > 0 {
			fails(t, whole[:len(whole)-1], api.ErrShort)
			fails(t, head, api.ErrShort)
		}
	}
}

func TestTakeOfBytesThatEndTooEarly(t *testing.T) {
	for _, l := range validRows() {
		b := encoded(l)
		// Rows of many values or long texts are cut at their ends only.
		for k := range len(b) {
			if k < 300 || k > len(b)-300 {
				fails(t, b[:k], api.ErrShort)
			}
		}
	}
}

func TestTakeDoesNotReadOn(t *testing.T) {
	// The memory behind the list has what the row lacks.
	room := []byte{2, 1, 172, 2, 2, 3, 97, 98, 99, 7}
	for k := range 9 {
		fails(t, room[:k], api.ErrShort)
	}
	takes(t, room[:9], row(num(150), text("abc")), 9, api.OK)
	takes(t, room, row(num(150), text("abc")), 9, api.OK)
}

// Co2 and R2: the first step that fails determines the error.

func TestWhichErrorComesFirst(t *testing.T) {
	for _, c := range []struct {
		b   []byte
		err api.Errno
	}{
		{[]byte{1}, api.ErrShort},                        // no byte of a value
		{[]byte{1, 0}, api.ErrKind},                      // no kind
		{[]byte{1, 3}, api.ErrKind},                      // a kind that there is not, ahead of the lack of a number
		{[]byte{1, 3, 128, 0}, api.ErrKind},              // and ahead of a number that is wrong
		{[]byte{1, 129, 0}, api.ErrKind},                 // a kind is a byte, not a number of several ones
		{[]byte{1, 1}, api.ErrShort},                     // no number
		{[]byte{1, 1, 128}, api.ErrShort},                // a part of a number
		{[]byte{1, 1, 128, 0}, api.ErrForm},              // a number in too many bytes
		{join([]byte{1, 1}, fill(10, 255)), api.ErrForm}, // a number that is too great
		{[]byte{1, 2}, api.ErrShort},                     // no length
		{[]byte{1, 2, 128}, api.ErrShort},                // a part of a length
		{[]byte{1, 2, 129, 0, 97}, api.ErrForm},          // a length in too many bytes
		{[]byte{1, 2, 129, 160, 0}, api.ErrForm},         // 4097 in too many bytes: its form comes first
		{join([]byte{1, 2}, fill(10, 255)), api.ErrForm}, // a length that is no number
		{[]byte{1, 2, 129, 32}, api.ErrLong},             // 4097, and not one byte of the text
		{join([]byte{1, 2}, fill(9, 255), []byte{1}), api.ErrLong},
		{[]byte{1, 2, 128, 32}, api.ErrShort},            // 4096, and not one byte of the text
		{[]byte{1, 2, 2, 97}, api.ErrShort},              // a part of a text
		{[]byte{2, 1, 2}, api.ErrShort},                  // no second value
		{[]byte{2, 1, 128, 3}, api.ErrShort},             // 3 ends the first number, and is no kind
		{[]byte{2, 1, 128, 3, 3}, api.ErrKind},           // a kind that there is not, in the second value
		{[]byte{2, 3, 1, 128, 0}, api.ErrKind},           // the first value is wrong ahead of the second one
		{[]byte{2, 1, 128, 0, 3}, api.ErrForm},           // so it is here
		{[]byte{2, 2, 129, 32, 3}, api.ErrLong},          // and here
		{[]byte{2, 2, 5, 3}, api.ErrShort},               // and here: 3 is a byte of the first text
		{[]byte{3, 1, 0, 2, 1, 97, 9}, api.ErrKind},      // a third value that is wrong
		{[]byte{233, 7}, api.ErrLong},                    // 1001 values, and not one of them
		{[]byte{233, 7, 3}, api.ErrLong},                 // and a wrong one
		{[]byte{233, 135, 0}, api.ErrForm},               // 1001 in too many bytes: its form comes first
		{[]byte{232, 7}, api.ErrShort},                   // 1000 values, and not one of them
		{[]byte{232, 7, 3}, api.ErrKind},                 // a wrong one ahead of the lack of others
		{[]byte{232, 7, 2, 129, 32}, api.ErrLong},        // and a text that is too long
		{[]byte{232, 7, 1, 128, 0}, api.ErrForm},         // and a number in too many bytes
		{[]byte{232, 7, 1, 2, 1, 2}, api.ErrShort},       // two right ones of 1000
		{join([]byte{128, 1}, fill(3, 1)), api.ErrShort}, // a second value that has only its kind
	} {
		want := c.err
		if _, _, err := literal(c.b); err != want {
			// The table itself is held against the chapter's words.
			t.Errorf("the chapter's words return %d for %v, the table says %d", err, c.b, want)
		}
		fails(t, c.b, want)
	}
}

func TestTakeOfEveryOneToThreeBytes(t *testing.T) {
	for x := range 256 {
		agrees(t, []byte{byte(x)})
		for y := range 256 {
			agrees(t, []byte{byte(x), byte(y)})
			for _, z := range []byte{0, 1, 2, 3, 7, 8, 31, 32, 33, 127, 128, 255} {
				agrees(t, []byte{byte(x), byte(y), z})
			}
		}
	}
}

func TestTakeOfManyBytes(t *testing.T) {
	// All lists of bytes that matter, up to a length of 7, alone and with others behind them.
	lists := [][]byte{nil}
	for at := 0; at < len(lists); at++ {
		agrees(t, lists[at])
		agrees(t, join(lists[at], []byte{1, 2, 1, 97, 1, 2, 1, 0}))
		if len(lists[at]) == 7 {
			continue
		}
		for _, x := range []byte{0, 1, 2, 3, 128} {
			lists = append(lists, join(lists[at], []byte{x}))
		}
	}
}

func TestTakeOfChangedBytes(t *testing.T) {
	b := encoded(row(num(1), text("abc"), num(-300), text(""), num(math.MinInt64), text(long(130)), num(0)))
	agrees(t, b)
	for at := range b {
		for x := range 256 {
			changed := bytes.Clone(b)
			changed[at] = byte(x)
			agrees(t, changed)
		}
		agrees(t, slices.Delete(bytes.Clone(b), at, at+1))
		agrees(t, slices.Insert(bytes.Clone(b), at, 0))
	}
}

// Co3.

func TestTakeInvertsPut(t *testing.T) {
	for _, l := range validRows() {
		b, err := code.Put(l)
		if err != api.OK {
			t.Fatalf("Put(%d values, the first %v) = %d", len(l), brief(l), err)
		}
		for _, tail := range tails() {
			takes(t, join(b, tail), l, len(b), api.OK)
		}
	}
}

func TestTakeInvertsPutAheadOfEveryByte(t *testing.T) {
	for _, l := range [][]api.Val{nil, row(num(0)), row(num(64)), row(num(math.MinInt64)), row(text("")), row(text("a")), row(num(1), text("a"))} {
		b := encoded(l)
		for x := range 256 {
			takes(t, join(b, []byte{byte(x)}), l, len(b), api.OK)
		}
	}
}

func TestRowsOneAfterAnother(t *testing.T) {
	list := validRows()
	var all []byte
	for _, l := range list {
		b, _ := code.Put(l)
		all = append(all, b...)
	}
	for _, want := range list {
		l, n, err := code.Take(all)
		if err != api.OK || !slices.Equal(l, want) {
			t.Fatalf("Take = %d values, the first %v, %d, %d, want %v", len(l), brief(l), n, err, brief(want))
		}
		all = all[n:]
	}
	fails(t, all, api.ErrShort)
}

func TestAcceptedRows(t *testing.T) {
	// Every row of one value in up to three bytes behind its kind.
	accepted := 0
	for _, kind := range []byte{0, 1, 2, 3} {
		for x := range 256 {
			for y := range 256 {
				b := []byte{1, kind, byte(x), byte(y)}
				agrees(t, b)
				if _, _, err := code.Take(b); err == api.OK {
					accepted++
				}
			}
		}
	}
	// A number of one byte, or of two, the second of which is neither 0 nor above 127; a text of no byte, or of one.
	if want := 128*256 + 128*127 + 2*256; accepted != want {
		t.Errorf("%d rows are accepted, want %d", accepted, want)
	}
}

// R3 and R4.

func TestNoArgumentIsChanged(t *testing.T) {
	room := []byte{3, 1, 172, 2, 2, 3, 97, 98, 99, 1, 128, 0, 2, 129, 32, 232, 7, 1, 0, 2, 0, 7}
	wantB := bytes.Clone(room)
	for from := range len(room) {
		for to := from; to <= len(room); to++ {
			l, n, err := code.Take(room[from:to])
			takes(t, room[from:to], l, n, err)
		}
	}
	if !bytes.Equal(room, wantB) {
		t.Errorf("Take changed its argument to %v", room)
	}
	// A row with room behind it, and rows that are not valid.
	rows := append(validRows(), invalidValues(), many(1001, num(1)), row(num(1), text("a"), num(2))[:2])
	for _, l := range rows {
		want := slices.Clone(l[:cap(l)])
		right := code.Right(l)
		b, err := code.Put(l)
		if !slices.Equal(l[:cap(l)], want) {
			t.Errorf("Right or Put changed its argument to %v", brief(l))
		}
		again, errAgain := code.Put(l)
		if right != code.Right(l) || err != errAgain || !bytes.Equal(b, again) {
			t.Errorf("a second call for %v returns something else", brief(l))
		}
	}
}

func TestBytesAreNewMemory(t *testing.T) {
	for _, l := range validRows() {
		want, keep := encoded(l), slices.Clone(l)
		first, _ := code.Put(l)
		second, _ := code.Put(l)
		for i := range first {
			first[i] ^= 255
		}
		// What is appended to one result is not seen in another one.
		_ = append(first, 77)
		third, _ := code.Put(l)
		if !bytes.Equal(second, want) || !bytes.Equal(third, want) || !slices.Equal(l, keep) {
			t.Errorf("results of Put(%v) share memory", brief(l))
		}
	}
}

func TestRowsAreNewMemory(t *testing.T) {
	for _, l := range validRows() {
		b := encoded(l)
		first, _, _ := code.Take(b)
		second, _, _ := code.Take(b)
		for i := range first {
			first[i] = api.Val{Kind: 9, N: 9, T: "9"}
		}
		_ = append(first, num(77))
		if third, _, _ := code.Take(b); !slices.Equal(second, l) || !slices.Equal(third, l) {
			t.Errorf("results of Take share memory: %v, %v, want %v", brief(second), brief(third), brief(l))
		}
		// The texts do not lie in the bytes that were given.
		for i := range b {
			b[i] ^= 255
		}
		if !slices.Equal(second, l) {
			t.Errorf("the result of Take changes with its argument: %v, want %v", brief(second), brief(l))
		}
	}
}

func FuzzCode(f *testing.F) {
	f.Add([]byte{2, 1, 2, 2, 1, 97}, int64(1), "a")
	f.Add([]byte{1, 2, 128, 32}, int64(math.MinInt64), "")
	f.Add([]byte{233, 7, 3}, int64(math.MaxInt64), long(4096))
	f.Add([]byte{1, 1, 128, 0}, int64(0), long(4097))
	f.Fuzz(func(t *testing.T, b []byte, n int64, s string) {
		agrees(t, b)
		l := row(code.Num(n), code.Text(s), code.Num(n))
		if len(s) > 4096 {
			refuses(t, l)
			return
		}
		whole := encoded(l)
		puts(t, l, whole)
		takes(t, join(whole, b), l, len(whole), api.OK)
	})
}
