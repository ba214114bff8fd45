package num_test

import (
	"math"
	"slices"
	"strconv"
	"strings"
	"testing"

	"newsreel/api"
	"newsreel/num"
)

const top = int64(1) << 40

// spread is a deterministic spread of sizes: all small ones, the neighbours of
// powers of two and of ten, and multiples of a large odd step.
func spread() []int64 {
	var l []int64
	for n := int64(0); n <= 2000; n++ {
		l = append(l, n)
	}
	for p := int64(1); p <= top; p *= 2 {
		l = append(l, p-1, p, p+1)
	}
	for p := int64(1); p <= top; p *= 10 {
		l = append(l, p-1, p, p+1)
	}
	for n := int64(0); n <= top; n += 1234567891 {
		l = append(l, n, top-n)
	}
	return slices.DeleteFunc(l, func(n int64) bool { return n > top })
}

// Nm1: Is.

func TestIsReportsSizes(t *testing.T) {
	for _, n := range []int64{0, 1, 7, 4096, top / 2, top - 1, top} {
		if !num.Is(n) {
			t.Errorf("Is(%d) = false, want true", n)
		}
	}
}

func TestIsRejectsOtherNumbers(t *testing.T) {
	for _, n := range []int64{-1, -2, -top, top + 1, top + 2, 2 * top, math.MaxInt64, math.MinInt64} {
		if num.Is(n) {
			t.Errorf("Is(%d) = true, want false", n)
		}
	}
}

// Nm1: Plus.

func TestPlusAddsSizes(t *testing.T) {
	for _, c := range []struct{ a, b, want int64 }{
		{0, 0, 0},
		{0, 1, 1},
		{2, 3, 5},
		{1000, 24, 1024},
		{top / 2, top / 2, top},
		{top - 1, 1, top},
		{1, top - 1, top},
		{top, 0, top},
		{0, top, top},
		{top - 1, 0, top - 1},
	} {
		got, ok := num.Plus(c.a, c.b)
		if got != c.want || !ok {
			t.Errorf("Plus(%d, %d) = %d, %v, want %d, true", c.a, c.b, got, ok, c.want)
		}
	}
}

func TestPlusRejects(t *testing.T) {
	for _, c := range []struct {
		why  string
		a, b int64
	}{
		{"the sum is one too great", top, 1},
		{"the sum is one too great", 1, top},
		{"the sum is one too great", top/2 + 1, top / 2},
		{"the sum of the greatest sizes", top, top},
		{"the first is negative, the sum would be a size", -1, 1},
		{"the second is negative, the sum would be a size", 5, -3},
		{"the first is too great, the sum would be a size", top + 1, -1},
		{"the second is too great, the sum would be a size", -1, top + 1},
		{"the first is too great", top + 1, 0},
		{"the second is too great", 0, top + 1},
		{"both are negative", -1, -1},
		{"the sum wraps round", math.MaxInt64, 1},
		{"the sum wraps round", math.MaxInt64, math.MaxInt64},
		{"the sum wraps round to 0", math.MinInt64, math.MinInt64},
		{"opposite extremes", math.MinInt64, math.MaxInt64},
	} {
		if got, ok := num.Plus(c.a, c.b); got != 0 || ok {
			t.Errorf("%s: Plus(%d, %d) = %d, %v, want 0, false", c.why, c.a, c.b, got, ok)
		}
	}
}

// Nm1: Sum.

func TestSumAddsAll(t *testing.T) {
	for _, c := range []struct {
		l    []int64
		want int64
	}{
		{nil, 0},
		{[]int64{}, 0},
		{[]int64{0}, 0},
		{[]int64{7}, 7},
		{[]int64{3, 4, 5}, 12},
		{[]int64{0, 0, 9, 0}, 9},
		{[]int64{top}, top},
		{[]int64{top, 0, 0}, top},
		{[]int64{0, top - 1, 1}, top},
		{[]int64{top / 4, top / 4, top / 4, top / 4}, top},
	} {
		if got, ok := num.Sum(c.l); got != c.want || !ok {
			t.Errorf("Sum(%v) = %d, %v, want %d, true", c.l, got, ok, c.want)
		}
	}
}

func TestSumRejects(t *testing.T) {
	for _, c := range []struct {
		why string
		l   []int64
	}{
		{"a single negative element", []int64{-1}},
		{"a single element that is too great", []int64{top + 1}},
		{"a negative element first", []int64{-1, 5}},
		{"a negative element within", []int64{5, -1, 2}},
		{"a negative element last", []int64{5, 6, -1}},
		{"an element too great among small ones", []int64{1, top + 1, 2}},
		{"too great and negative, together a size", []int64{top + 1, -1}},
		{"partial sum too great, brought back by a negative one", []int64{top, 1, -1}},
		{"the sum is one too great", []int64{top, 1}},
		{"the sum is one too great", []int64{1, top - 1, 1}},
		{"two greatest sizes", []int64{top, top}},
		{"wraps round to 0", []int64{math.MinInt64, math.MinInt64}},
		{"wraps round", []int64{math.MaxInt64, math.MaxInt64, 2}},
	} {
		if got, ok := num.Sum(c.l); got != 0 || ok {
			t.Errorf("%s: Sum(%v) = %d, %v, want 0, false", c.why, c.l, got, ok)
		}
	}
}

func TestSumOfManyGreatestSizesDoesNotWrapRound(t *testing.T) {
	// 2^24 times 2^40 is 2^64: exactly 0 in 64 bits.
	l := make([]int64, 1<<24)
	for i := range l {
		l[i] = top
	}
	if got, ok := num.Sum(l); got != 0 || ok {
		t.Errorf("Sum of 2^24 times 2^40 = %d, %v, want 0, false", got, ok)
	}
}

func TestSumLeavesItsArgumentAlone(t *testing.T) {
	l := []int64{9, 1, 5}
	num.Sum(l)
	if !slices.Equal(l, []int64{9, 1, 5}) {
		t.Errorf("Sum changed its argument to %v", l)
	}
}

// Nm1: Clamp.

func TestClamp(t *testing.T) {
	for _, c := range []struct{ n, lo, hi, want int64 }{
		{2, 0, 3, 2},
		{0, 0, 3, 0},
		{3, 0, 3, 3},
		{-1, 0, 3, 0},
		{4, 0, 3, 3},
		{9, 0, 3, 3},
		{5, 5, 5, 5},
		{4, 5, 5, 5},
		{6, 5, 5, 5},
		{-7, -9, -5, -7},
		{-10, -9, -5, -9},
		{-4, -9, -5, -5},
		// Bounds that cross: lo is asked first.
		{1, 5, 3, 5},
		{4, 5, 3, 5},
		{5, 5, 3, 3},
		{9, 5, 3, 3},
		// Numbers that are no sizes.
		{math.MinInt64, -1, 1, -1},
		{math.MaxInt64, -1, 1, 1},
		{0, math.MinInt64, math.MaxInt64, 0},
		{math.MinInt64, math.MinInt64, math.MaxInt64, math.MinInt64},
		{math.MaxInt64, math.MinInt64, math.MaxInt64, math.MaxInt64},
		{math.MinInt64, math.MaxInt64, math.MaxInt64, math.MaxInt64},
		{math.MaxInt64, math.MinInt64, math.MinInt64, math.MinInt64},
		{top + 1, 0, top, top},
	} {
		if got := num.Clamp(c.n, c.lo, c.hi); got != c.want {
			t.Errorf("Clamp(%d, %d, %d) = %d, want %d", c.n, c.lo, c.hi, got, c.want)
		}
	}
}

// Nm2: Put.

func TestPut(t *testing.T) {
	for _, c := range []struct {
		n    int64
		want string
	}{
		{0, "0"},
		{1, "1"},
		{9, "9"},
		{10, "10"},
		{11, "11"},
		{99, "99"},
		{100, "100"},
		{1005, "1005"},
		{4096, "4096"},
		{-1, "-1"},
		{-9, "-9"},
		{-10, "-10"},
		{-4096, "-4096"},
		{top - 1, "1099511627775"},
		{top, "1099511627776"},
		{top + 1, "1099511627777"},
		{-top, "-1099511627776"},
		{1000000000000000000, "1000000000000000000"},
		{-1000000000000000000, "-1000000000000000000"},
		{math.MaxInt64 - 1, "9223372036854775806"},
		{math.MaxInt64, "9223372036854775807"},
		{math.MinInt64 + 1, "-9223372036854775807"},
		{math.MinInt64, "-9223372036854775808"},
	} {
		if got := num.Put(c.n); got != c.want {
			t.Errorf("Put(%d) = %q, want %q", c.n, got, c.want)
		}
	}
}

func TestPutAgreesWithTheLibrary(t *testing.T) {
	for _, n := range spread() {
		for _, m := range []int64{n, -n, math.MaxInt64 - n, math.MinInt64 + n} {
			if got, want := num.Put(m), strconv.FormatInt(m, 10); got != want {
				t.Fatalf("Put(%d) = %q, want %q", m, got, want)
			}
		}
	}
}

// Nm2: Get.

func TestGetParsesSizes(t *testing.T) {
	for _, c := range []struct {
		s    string
		want int64
	}{
		{"0", 0},
		{"1", 1},
		{"9", 9},
		{"10", 10},
		{"100", 100},
		{"1005", 1005},
		{"1234567890", 1234567890},
		{"999999999999", 999999999999},
		{"1000000000000", 1000000000000},
		{"1099511627775", top - 1},
		{"1099511627776", top},
	} {
		if got, err := num.Get(c.s); got != c.want || err != api.OK {
			t.Errorf("Get(%q) = %d, %d, want %d, OK", c.s, got, err, c.want)
		}
	}
}

func TestGetRejectsTextsThatAreNoNumbers(t *testing.T) {
	for _, s := range []string{
		"",
		"01", "00", "007", "000", "0x1", "0 ",
		"-", "-1", "-0", "+1", "+", "1-",
		" ", " 1", "1 ", "1 2", "\t1", "1\n",
		"a", "a1", "1a", "12x34", "1e3", "1.5", "1,000", "1_000",
		"/", ":", "1/", "1:", "/1", ":1",
		"\x00", "1\x00", "\xff", "1\xff", "\x801", "1\xb0",
		"٣", "1٣", "３", "½",
	} {
		if got, err := num.Get(s); got != 0 || err != api.ErrText {
			t.Errorf("Get(%q) = %d, %d, want 0, ErrText", s, got, err)
		}
	}
}

func TestGetRejectsEveryByteThatIsNotADigit(t *testing.T) {
	for b := range 256 {
		digit := b >= '0' && b <= '9'
		for _, s := range []string{"1" + string([]byte{byte(b)}), "1" + string([]byte{byte(b)}) + "2"} {
			_, err := num.Get(s)
			if digit && err != api.OK || !digit && err != api.ErrText {
				t.Errorf("Get(%q) = error %d", s, err)
			}
		}
	}
}

func TestGetRejectsNumbersThatAreNoSizes(t *testing.T) {
	for _, s := range []string{
		"1099511627777",        // 13 digits, one too great
		"1099511627778",        //
		"1099511627780",        //
		"1100000000000",        //
		"2000000000000",        //
		"9999999999999",        // the greatest of 13 digits
		"10000000000000",       // the least of 14 digits
		"10995116277760",       // 14 digits
		"99999999999999",       //
		"9223372036854775807",  // the greatest int64
		"9223372036854775808",  //
		"18446744073709551616", // 2^64: 0 in 64 bits
		"18446744073709551617", // 2^64 + 1: 1 in 64 bits
		"1" + strings.Repeat("0", 64),
		strings.Repeat("9", 5000),
	} {
		if got, err := num.Get(s); got != 0 || err != api.ErrRange {
			t.Errorf("Get(%.30q) = %d, %d, want 0, ErrRange", s, got, err)
		}
	}
}

func TestGetNamesTheTextErrorFirst(t *testing.T) {
	for _, s := range []string{
		"01099511627777",              // leading zero, 14 digits
		"01099511627776",              // leading zero, 14 digits, value of a size
		"00000000000001",              // leading zeros, 14 digits
		"0000000000001",               // leading zeros, 13 digits
		strings.Repeat("0", 14),       //
		strings.Repeat("0", 100),      //
		"1099511627777x",              // not a digit behind 13 digits
		"99999999999999x",             // not a digit behind 14 digits
		"x99999999999999",             //
		"-1099511627777",              //
		"-9223372036854775808",        //
		strings.Repeat("9", 99) + " ", //
	} {
		if got, err := num.Get(s); got != 0 || err != api.ErrText {
			t.Errorf("Get(%q) = %d, %d, want 0, ErrText", s, got, err)
		}
	}
}

// Nm3.

func TestSumDoesNotDependOnTheOrder(t *testing.T) {
	for _, l := range [][]int64{
		{1, 2, 3, 4},
		{0, top - 1, 1, 0},
		{top, 1, 0, 0},
		{top, 1, -1, 0},
		{top + 1, -1, 0, 5},
		{math.MaxInt64, math.MinInt64, 1, 2},
		{top / 2, top / 2, 0, 1},
	} {
		want, wantOk := num.Sum(l)
		orders(l, func(p []int64) {
			if got, ok := num.Sum(p); got != want || ok != wantOk {
				t.Errorf("Sum(%v) = %d, %v, but Sum(%v) = %d, %v", p, got, ok, l, want, wantOk)
			}
		})
	}
}

// orders calls f with each order of l.
func orders(l []int64, f func([]int64)) {
	p := slices.Clone(l)
	var place func(k int)
	place = func(k int) {
		if k == len(p) {
			f(p)
			return
		}
		for i := k; i < len(p); i++ {
			p[k], p[i] = p[i], p[k]
			place(k + 1)
			p[k], p[i] = p[i], p[k]
		}
	}
	place(0)
}

func TestGetReturnsWhatPutFormatted(t *testing.T) {
	for _, n := range spread() {
		if got, err := num.Get(num.Put(n)); got != n || err != api.OK {
			t.Fatalf("Get(Put(%d)) = %d, %d", n, got, err)
		}
	}
}

func TestGetRejectsWhatPutFormattedOfOtherNumbers(t *testing.T) {
	for _, c := range []struct {
		n    int64
		want api.Errno
	}{
		{-1, api.ErrText},
		{-top, api.ErrText},
		{math.MinInt64, api.ErrText},
		{top + 1, api.ErrRange},
		{math.MaxInt64, api.ErrRange},
	} {
		if got, err := num.Get(num.Put(c.n)); got != 0 || err != c.want {
			t.Errorf("Get(Put(%d)) = %d, %d, want 0, %d", c.n, got, err, c.want)
		}
	}
}

func FuzzGet(f *testing.F) {
	for _, s := range []string{"", "0", "01", "1099511627776", "1099511627777", "-1", "12x"} {
		f.Add(s)
	}
	f.Fuzz(func(t *testing.T, s string) {
		n, err := num.Get(s)
		if err == api.OK && (!num.Is(n) || num.Put(n) != s) {
			t.Errorf("Get(%q) = %d, which is formatted as %q", s, n, num.Put(n))
		}
		if err != api.OK && n != 0 {
			t.Errorf("Get(%q) = %d beside error %d", s, n, err)
		}
	})
}
