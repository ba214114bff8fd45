package hexa_test

import (
	"bytes"
	"encoding/hex"
	"slices"
	"strings"
	"testing"

	"newsreel/api"
	"newsreel/hexa"
	"newsreel/text"
)

// one is the string of one byte; a conversion of the number itself would encode a rune.
func one(b int) string { return string([]byte{byte(b)}) }

// every is all bytes, in order.
func every() []byte {
	var l []byte
	for b := range 256 {
		l = append(l, byte(b))
	}
	return l
}

// digitValue is worked out apart from the package: 16 if b is no digit.
func digitValue(b int) int {
	switch {
	case b >= '0' && b <= '9':
		return b - '0'
	case b >= 'a' && b <= 'f':
		return b - 'a' + 10
	case b >= 'A' && b <= 'F':
		return b - 'A' + 10
	}
	return 16
}

// rejected fails the test unless Get(s) returns ErrText and no bytes.
func rejected(t *testing.T, s string) {
	t.Helper()
	if b, err := hexa.Get(s); err != api.ErrText || len(b) != 0 {
		t.Errorf("Get(%.30q) = %.30v, %d, want no bytes, %d", s, b, err, api.ErrText)
	}
}

// Hx1: Put.

func TestPut(t *testing.T) {
	for _, c := range []struct {
		b    []byte
		want string
	}{
		{nil, ""},
		{[]byte{}, ""},
		{[]byte{255, 1}, "ff01"}, // the chapter's example
		{[]byte{0}, "00"},
		{[]byte{9}, "09"},
		{[]byte{10}, "0a"},
		{[]byte{15}, "0f"},
		{[]byte{16}, "10"},
		{[]byte{0x9a}, "9a"},
		{[]byte{0xa9}, "a9"},
		{[]byte{127}, "7f"},
		{[]byte{128}, "80"},
		{[]byte{255}, "ff"},
		{[]byte{0, 0}, "0000"}, // zeros at the beginning are kept
		{[]byte{0, 1, 0}, "000100"},
		{[]byte{0xde, 0xad, 0xbe, 0xef}, "deadbeef"},
		{[]byte{0x01, 0x23, 0x45, 0x67, 0x89, 0xab, 0xcd, 0xef}, "0123456789abcdef"},
		{[]byte("ETag"), "45546167"},
		{bytes.Repeat([]byte{0xc3, 0x5a}, 5000), strings.Repeat("c35a", 5000)},
	} {
		if got := hexa.Put(c.b); got != c.want {
			t.Errorf("Put(%.30v) = %.30q, want %.30q", c.b, got, c.want)
		}
	}
}

func TestPutOfEveryByte(t *testing.T) {
	const small = "0123456789abcdef"
	all := ""
	for b := range 256 {
		want := small[b/16:b/16+1] + small[b%16:b%16+1]
		all += want
		if got := hexa.Put([]byte{byte(b)}); got != want {
			t.Errorf("Put of %d = %q, want %q", b, got, want)
		}
		if got := hexa.Put([]byte{1, byte(b), 254}); got != "01"+want+"fe" {
			t.Errorf("Put of 1, %d, 254 = %q, want %q", b, got, "01"+want+"fe")
		}
	}
	if got := hexa.Put(every()); got != all {
		t.Errorf("Put of all bytes = %q, want %q", got, all)
	}
}

// Hx1: Get.

func TestGet(t *testing.T) {
	for _, c := range []struct {
		s    string
		want []byte
	}{
		{"", nil},
		{"ff01", []byte{255, 1}}, // the chapter's example
		{"FF01", []byte{255, 1}},
		{"fF01", []byte{255, 1}},
		{"Ff01", []byte{255, 1}},
		{"00", []byte{0}},
		{"0000", []byte{0, 0}},
		{"000100", []byte{0, 1, 0}},
		{"09", []byte{9}},
		{"0a", []byte{10}},
		{"0A", []byte{10}},
		{"a0", []byte{160}},
		{"A0", []byte{160}},
		{"7f", []byte{127}},
		{"80", []byte{128}},
		{"dEAdbEeF", []byte{0xde, 0xad, 0xbe, 0xef}},
		{"0123456789abcdef", []byte{0x01, 0x23, 0x45, 0x67, 0x89, 0xab, 0xcd, 0xef}},
		{"0123456789ABCDEF", []byte{0x01, 0x23, 0x45, 0x67, 0x89, 0xab, 0xcd, 0xef}},
		{"fedcbaFEDCBA", []byte{0xfe, 0xdc, 0xba, 0xfe, 0xdc, 0xba}},
		{strings.Repeat("C35a", 5000), bytes.Repeat([]byte{0xc3, 0x5a}, 5000)},
	} {
		got, err := hexa.Get(c.s)
		if err != api.OK || !bytes.Equal(got, c.want) {
			t.Errorf("Get(%.30q) = %.30v, %d, want %.30v, %d", c.s, got, err, c.want, api.OK)
		}
	}
}

func TestGetOfEveryTwoBytes(t *testing.T) {
	count := 0
	for a := range 256 {
		for b := range 256 {
			s := one(a) + one(b)
			high, low := digitValue(a), digitValue(b)
			if high > 15 || low > 15 {
				rejected(t, s)
				continue
			}
			count++
			got, err := hexa.Get(s)
			if err != api.OK || !bytes.Equal(got, []byte{byte(16*high + low)}) {
				t.Errorf("Get(%q) = %v, %d, want %d", s, got, err, 16*high+low)
			}
		}
	}
	// 10 digits, 6 small letters and 6 capital ones, in either place.
	if count != 22*22 {
		t.Errorf("%d pairs of digits, want %d", count, 22*22)
	}
}

func TestGetRejectsAnOddNumberOfBytes(t *testing.T) {
	for _, s := range []string{
		"0", "9", "a", "f", "A", "F",
		"ff0", "0ff", "000", "12345", "fF01a",
		" ", "g", "\xff", "\x00", // wrong in two ways
		"ff ", "ffg", "g00",
		strings.Repeat("0", 10001),
	} {
		rejected(t, s)
	}
}

func TestGetRejectsWhatIsNoDigit(t *testing.T) {
	for _, c := range []string{
		"/", ":", "@", "G", "`", "g", // just outside 0 to 9, A to F and a to f
		" ", "\t", "\n", "\x00", "-", "+", "_", ".", ",", "x", "X", "Z", "z", "\x10", "\x1a", "\x7f",
		"\x80", "\xb0", "\xc1", "\xe1", "\xff", // the digits with their highest bit set among them
	} {
		for _, s := range []string{
			c + "0", "0" + c, c + c,
			c + "f01f", "f" + c + "01", "ff" + c + "1", "ff0" + c,
			c + "fff01f", "ffff" + c + "f", "fffff" + c,
			strings.Repeat("A9", 5000) + "0" + c, c + "0" + strings.Repeat("a9", 5000),
		} {
			rejected(t, s)
		}
	}
	for _, s := range []string{
		"0x", "0xff", "#f", "ff 1", " ff ", "-1", "+f", "f_f1", "ff\r\n",
		"é", "٣", // two bytes each
		"\uff11\uff12", // digits of full width
		"\u0660a", "zz", "true", "podcasts",
	} {
		if len(s)%2 != 0 {
			s += "0"
		}
		rejected(t, s)
	}
}

// Hx2.

func TestGetInvertsPut(t *testing.T) {
	lists := [][]byte{nil, {}, every(), []byte("ETag: x"), {0, 0, 0}, {255, 255, 255}}
	for n := range 64 {
		l := make([]byte, n)
		for i := range l {
			l[i] = byte(i*i*7 + n*31)
		}
		lists = append(lists, l)
	}
	for a := range 256 {
		for b := range 256 {
			lists = append(lists, []byte{byte(a), byte(b)})
		}
	}
	for _, l := range lists {
		s := hexa.Put(l)
		if got, err := hexa.Get(s); err != api.OK || !bytes.Equal(got, l) {
			t.Errorf("Get(%.30q) = %.30v, %d, want %.30v", s, got, err, l)
		}
		if len(s) != 2*len(l) {
			t.Errorf("Put(%.30v) has %d bytes, want %d", l, len(s), 2*len(l))
		}
	}
}

func TestPutOfTheBytesOfGetIsTheLowercaseForm(t *testing.T) {
	// All strings of four digits, out of some of all three kinds.
	words := []string{""}
	for range 4 {
		var next []string
		for _, w := range words {
			for _, c := range "059acfABF" {
				next = append(next, w+string(c))
			}
		}
		words = next
	}
	words = append(words, "", "fF01", "DEADBEEF", "0123456789abcdefABCDEF", strings.Repeat("Ff", 5000))
	for _, s := range words {
		b, err := hexa.Get(s)
		if got := hexa.Put(b); err != api.OK || got != text.Lower(s) {
			t.Errorf("Put(Get(%.30q)) = %.30q, %d, want %.30q", s, got, err, text.Lower(s))
		}
	}
}

// R3.

func TestNoArgumentIsChanged(t *testing.T) {
	b := every()
	// Room behind the list would be written to by an append to it.
	for _, l := range [][]byte{b, b[:0], b[:7], b[128:130]} {
		hexa.Put(l)
	}
	if !slices.Equal(b, every()) {
		t.Errorf("Put changed its argument to %v", b)
	}
	for _, s := range []string{"", "fF01", "FF", "f", "Fg", "GG", "\xffA"} {
		// Another memory than that of s, so that a change of s would show.
		kept := strings.Clone(s)
		hexa.Get(s)
		if s != kept {
			t.Errorf("%q became %q", kept, s)
		}
	}
}

func TestResultsAreNewMemory(t *testing.T) {
	b := []byte{255, 1}
	s := hexa.Put(b)
	b[0] = 0
	if s != "ff01" {
		t.Errorf("Put's result became %q", s)
	}
	first, _ := hexa.Get("fF01")
	second, _ := hexa.Get("fF01")
	first[0] = 7
	third, _ := hexa.Get("fF01")
	if want := []byte{255, 1}; !bytes.Equal(second, want) || !bytes.Equal(third, want) {
		t.Errorf("results of Get share memory: %v, %v", second, third)
	}
}

func FuzzHexa(f *testing.F) {
	for _, s := range []string{"", "fF01", "f", "0g", "G0", "\xff0", "\xc1\xc1"} {
		f.Add(s)
	}
	f.Fuzz(func(t *testing.T, s string) {
		if digits := hexa.Put([]byte(s)); digits != hex.EncodeToString([]byte(s)) {
			t.Errorf("Put(%q) = %q", s, digits)
		}
		want, wrong := hex.DecodeString(s)
		if wrong != nil {
			rejected(t, s)
			return
		}
		b, err := hexa.Get(s)
		if err != api.OK || !bytes.Equal(b, want) || hexa.Put(b) != text.Lower(s) {
			t.Errorf("Get(%q) = %v, %d, want %v", s, b, err, want)
		}
	})
}
