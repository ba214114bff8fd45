package text_test

import (
	"slices"
	"strings"
	"testing"

	"newsreel/text"
)

// one is the string of one byte; a conversion of the number itself would encode a rune.
func one(b int) string { return string([]byte{byte(b)}) }

// samples are strings of few bytes, over an alphabet of separators, blanks,
// letters of both cases, and bytes that no character of UTF-8 begins with.
func samples() []string {
	alphabet := []string{",", " ", "\t", "a", "Z", "\x00", "\xff"}
	all := []string{""}
	last := all
	for range 4 {
		var next []string
		for _, s := range last {
			for _, c := range alphabet {
				next = append(next, s+c)
			}
		}
		all = append(all, next...)
		last = next
	}
	return all
}

// separators are the bytes that samples are cut by; the last one occurs in none.
var separators = []byte{',', ' ', 'a', 'Z', 0, 255, ';'}

// Tx1: Lower.

func TestLower(t *testing.T) {
	for _, c := range []struct{ s, want string }{
		{"", ""},
		{"A", "a"},
		{"Z", "z"},
		{"abc", "abc"},
		{"ETag", "etag"},
		{"CONTENT-Length", "content-length"},
		{"Range: 0-15", "range: 0-15"},
		{"@AZ[`az{", "@az[`az{"},
		{" \tA\t ", " \ta\t "},
		{"ÄÖÜ", "ÄÖÜ"},         // letters, but not A to Z
		{"Σ\u212a", "Σ\u212a"}, // the sign of kelvins is not K
		{"A\xc3Z", "a\xc3z"},   // not valid UTF-8
		{"\xffA\x80", "\xffa\x80"},
		{"A\x00B", "a\x00b"},
		{"ABCDEFGHIJKLMNOPQRSTUVWXYZ", "abcdefghijklmnopqrstuvwxyz"},
		{strings.Repeat("Ab", 5000), strings.Repeat("ab", 5000)},
	} {
		if got := text.Lower(c.s); got != c.want {
			t.Errorf("Lower(%.30q) = %.30q, want %.30q", c.s, got, c.want)
		}
	}
}

func TestLowerOfEveryByte(t *testing.T) {
	for b := range 256 {
		want := one(b)
		if b >= 'A' && b <= 'Z' {
			want = one(b + 32)
		}
		if got := text.Lower(one(b)); got != want {
			t.Errorf("Lower(%q) = %q, want %q", one(b), got, want)
		}
		if got := text.Lower("X" + one(b) + "y"); got != "x"+want+"y" {
			t.Errorf("Lower(%q) = %q, want %q", "X"+one(b)+"y", got, "x"+want+"y")
		}
	}
}

// Tx1: Same.

func TestSame(t *testing.T) {
	for _, c := range []struct {
		a, b string
		want bool
	}{
		{"", "", true},
		{"", "a", false},
		{"", " ", false},
		{"a", "a", true},
		{"a", "A", true},
		{"Z", "z", true},
		{"ETag", "etag", true},
		{"ETAG", "etag", true},
		{"eTAG", "EtAg", true},
		{"a", "b", false},
		{"a", "ab", false},
		{"AB", "A", false},
		{"ab", "ba", false},
		{"a ", "a", false},
		{"\ta", " a", false},
		{"ä", "Ä", false},
		{"\u212a", "k", false}, // the sign of kelvins is no letter here
		{"\u017f", "s", false}, // nor is the long s
		{"\xc3", "\xe3", false},
		{"\x80", "\x81", false}, // both would be U+FFFD
		{"A\xffB", "a\xffb", true},
		{"a\x00", "A\x00", true},
		{"a\x00b", "a\x00c", false},
	} {
		if got := text.Same(c.a, c.b); got != c.want {
			t.Errorf("Same(%q, %q) = %v, want %v", c.a, c.b, got, c.want)
		}
		if got := text.Same(c.b, c.a); got != c.want {
			t.Errorf("Same(%q, %q) = %v, want %v", c.b, c.a, got, c.want)
		}
	}
}

func TestSameOfEveryTwoBytes(t *testing.T) {
	letter := func(b int) bool { return b >= 'a' && b <= 'z' }
	for a := range 256 {
		for b := range 256 {
			want := a == b || a+32 == b && letter(b) || b+32 == a && letter(a)
			if got := text.Same(one(a), one(b)); got != want {
				t.Errorf("Same(%q, %q) = %v, want %v", one(a), one(b), got, want)
			}
		}
	}
}

// Tx1: Trim.

func TestTrim(t *testing.T) {
	for _, c := range []struct{ s, want string }{
		{"", ""},
		{" ", ""},
		{"\t", ""},
		{"  ", ""},
		{" \t \t", ""},
		{"a", "a"},
		{"ab", "ab"},
		{" a", "a"},
		{"a ", "a"},
		{"\ta", "a"},
		{"a\t", "a"},
		{" \ta b ", "a b"},
		{"\t \t a \t b \t \t", "a \t b"},
		{"a \tb", "a \tb"},
		{"  a", "a"},
		{"a\t\t", "a"},
		{"\n a \n", "\n a \n"}, // a line feed is not a blank
		{" \na\r ", "\na\r"},
		{" \x00 ", "\x00"},
		{"\v\f", "\v\f"},
		{" \u00a0a\u00a0 ", "\u00a0a\u00a0"}, // nor is the no-break space
		{"\u2003a\u3000", "\u2003a\u3000"},
		{" \xff\x80 ", "\xff\x80"},
		{"\xa0a\x85", "\xa0a\x85"},
		{strings.Repeat(" \t", 5000) + "x y" + strings.Repeat("\t ", 5000), "x y"},
		{strings.Repeat(" \t", 5000), ""},
	} {
		if got := text.Trim(c.s); got != c.want {
			t.Errorf("Trim(%.30q) = %.30q, want %.30q", c.s, got, c.want)
		}
	}
}

func TestTrimOfEveryByte(t *testing.T) {
	for b := range 256 {
		blank := b == ' ' || b == '\t'
		alone, around := one(b), one(b)+"a"+one(b)+"b"+one(b)
		if blank {
			alone, around = "", "a"+one(b)+"b"
		}
		if got := text.Trim(one(b)); got != alone {
			t.Errorf("Trim(%q) = %q, want %q", one(b), got, alone)
		}
		s := one(b) + "a" + one(b) + "b" + one(b)
		if got := text.Trim(s); got != around {
			t.Errorf("Trim(%q) = %q, want %q", s, got, around)
		}
	}
}

// Tx1: Token.

const (
	letters = "ABCDEFGHIJKLMNOPQRSTUVWXYZabcdefghijklmnopqrstuvwxyz"
	digits  = "0123456789"
	signs   = "!#$%&'*+-.^_|~" + "`"
)

func TestToken(t *testing.T) {
	for _, s := range []string{
		"a", "Z", "0", "9", "x-y", "Content-Length", "HTTP1.1", "200", "-", "~", "`", "^_^",
		letters, digits, signs, letters + digits + signs,
		strings.Repeat("a1-", 5000),
	} {
		if !text.Token(s) {
			t.Errorf("Token(%.30q) = false, want true", s)
		}
	}
}

func TestTokenRejects(t *testing.T) {
	for _, s := range []string{
		"",
		" ", "\t", "a b", " a", "a ", "a\tb", "\ta", "a\t",
		"a:", "a=b", "a,b", "a;b", "a/b", "\"a\"", "(a)", "<a>", "[a]", "{a}", "a\\", "a?", "a@b",
		"a\n", "\r", "a\x00", "\x00a", "a\x1f", "a\x7f", "\x7f",
		"a\x80", "\xffa", "ä", "aä", "Ⅰ", "\u212a", "٣",
		strings.Repeat("a", 5000) + ":", ":" + strings.Repeat("a", 5000),
	} {
		if text.Token(s) {
			t.Errorf("Token(%.30q) = true, want false", s)
		}
	}
}

func TestTokenOfEveryByte(t *testing.T) {
	bytes := []byte(letters + digits + signs)
	count := 0
	for b := range 256 {
		want := slices.Contains(bytes, byte(b))
		for _, s := range []string{one(b), one(b) + "a", "a" + one(b), "a" + one(b) + "a"} {
			if got := text.Token(s); got != want {
				t.Errorf("Token(%q) = %v, want %v", s, got, want)
			}
		}
		if text.Token(one(b)) {
			count++
		}
	}
	// 52 letters, 10 digits, 14 signs and the backquote.
	if count != 77 {
		t.Errorf("%d token bytes, want 77", count)
	}
}

// Tx1: Plain.

func TestPlain(t *testing.T) {
	for _, c := range []struct {
		s    string
		want bool
	}{
		{"", true}, // no byte is outside the range
		{" ", true},
		{"~", true},
		{"a b~", true},
		{"http://f/a?b=c#d", true},
		{letters + digits + signs + " \"(),/:;<=>?@[\\]{}", true},
		{strings.Repeat(" ~", 5000), true},
		{"\x1f", false},
		{"\x7f", false},
		{"\t", false},
		{"\n", false},
		{"\x00", false},
		{"a\tb", false},
		{"a\r\n", false},
		{"\x7fa", false},
		{"\x80", false},
		{"a\xff", false},
		{"ä", false},
		{"a\u00a0b", false},
		{"\u2028", false},
		{strings.Repeat("a", 5000) + "\x7f", false},
		{"\x1f" + strings.Repeat("a", 5000), false},
	} {
		if got := text.Plain(c.s); got != c.want {
			t.Errorf("Plain(%.30q) = %v, want %v", c.s, got, c.want)
		}
	}
}

func TestPlainOfEveryByte(t *testing.T) {
	for b := range 256 {
		want := b >= 32 && b <= 126
		for _, s := range []string{one(b), one(b) + "a", "a" + one(b), "a" + one(b) + "a"} {
			if got := text.Plain(s); got != want {
				t.Errorf("Plain(%q) = %v, want %v", s, got, want)
			}
		}
	}
}

// Tx2: Cut.

func TestCut(t *testing.T) {
	for _, c := range []struct {
		s             string
		c             byte
		before, after string
		found         bool
	}{
		{"k=v", '=', "k", "v", true},
		{"k=v=w", '=', "k", "v=w", true},
		{"=v", '=', "", "v", true},
		{"k=", '=', "k", "", true},
		{"=", '=', "", "", true},
		{"==", '=', "", "=", true},
		{"k==v", '=', "k", "=v", true},
		{" k = v ", '=', " k ", " v ", true},
		{"", '=', "", "", false},
		{"k", '=', "k", "", false},
		{"k:v", '=', "k:v", "", false},
		{"k v\tw", '\t', "k v", "w", true},
		{"aXbxc", 'x', "aXb", "c", true}, // not in the lowercase form
		{"aXbxc", 'X', "a", "bxc", true},
		{"a\x00b", 0, "a", "b", true},
		{"ab", 0, "ab", "", false},
		{"\xffab\xff", 0xff, "", "ab\xff", true},
		{"ÿ", 0xff, "ÿ", "", false},          // the character 255 is not the byte 255
		{"é", 0xa9, "\xc3", "", true},        // a byte within a character
		{"\x80\x81", 0x81, "\x80", "", true}, // no valid UTF-8
		{"�\xef", 0x80, "�\xef", "", false},
	} {
		before, after, found := text.Cut(c.s, c.c)
		if before != c.before || after != c.after || found != c.found {
			t.Errorf("Cut(%q, %q) = %q, %q, %v, want %q, %q, %v", c.s, c.c, before, after, found, c.before, c.after, c.found)
		}
	}
}

func TestCutByEveryByte(t *testing.T) {
	for b := range 256 {
		s := one(b^2) + one(b^1) + one(b) + one(b) + one(b^2)
		before, after, found := text.Cut(s, byte(b))
		if before != s[:2] || after != s[3:] || !found {
			t.Errorf("Cut(%q, %q) = %q, %q, %v", s, byte(b), before, after, found)
		}
		without := strings.ReplaceAll(s, one(b), "")
		before, after, found = text.Cut(without, byte(b))
		if before != without || after != "" || found {
			t.Errorf("Cut(%q, %q) = %q, %q, %v", without, byte(b), before, after, found)
		}
	}
}

// Tx2: Split.

func TestSplit(t *testing.T) {
	for _, c := range []struct {
		s    string
		c    byte
		want []string
	}{
		{"a,,b", ',', []string{"a", "", "b"}}, // the chapter's example
		{"a,b,c", ',', []string{"a", "b", "c"}},
		{"", ',', []string{""}},
		{"a", ',', []string{"a"}},
		{"a b", ',', []string{"a b"}},
		{",", ',', []string{"", ""}},
		{",,", ',', []string{"", "", ""}},
		{",a", ',', []string{"", "a"}},
		{"a,", ',', []string{"a", ""}},
		{",a,", ',', []string{"", "a", ""}},
		{",,a,,b,,", ',', []string{"", "", "a", "", "b", "", ""}},
		{" a , b ", ',', []string{" a ", " b "}},
		{"do sub  x", ' ', []string{"do", "sub", "", "x"}},
		{"aXbxc", 'x', []string{"aXb", "c"}},
		{"a\x00\x00b", 0, []string{"a", "", "b"}},
		{"\xffa\xff\xffb", 0xff, []string{"", "a", "", "b"}},
		{"aÿb", 0xff, []string{"aÿb"}},
		{"éa", 0xa9, []string{"\xc3", "a"}},
	} {
		if got := text.Split(c.s, c.c); !slices.Equal(got, c.want) {
			t.Errorf("Split(%q, %q) = %q, want %q", c.s, c.c, got, c.want)
		}
	}
}

func TestSplitOfALongString(t *testing.T) {
	parts := text.Split(strings.Repeat("ab;", 100000), ';')
	if len(parts) != 100001 || parts[0] != "ab" || parts[99999] != "ab" || parts[100000] != "" {
		t.Errorf("%d parts", len(parts))
	}
}

func TestSplitReturnsNewMemory(t *testing.T) {
	first := text.Split("a,b", ',')
	first[0] = "x"
	if again := text.Split("a,b", ','); !slices.Equal(again, []string{"a", "b"}) {
		t.Errorf("Split = %q behind a change of its last result", again)
	}
}

// Tx3.

func TestResultsOfCutJoinedAreTheString(t *testing.T) {
	for _, s := range samples() {
		for _, c := range separators {
			before, after, found := text.Cut(s, c)
			if found && before+string([]byte{c})+after != s || !found && before+after != s {
				t.Errorf("Cut(%q, %q) = %q, %q, %v", s, c, before, after, found)
			}
			if found != strings.Contains(s, string([]byte{c})) || strings.Contains(before, string([]byte{c})) {
				t.Errorf("Cut(%q, %q) = %q, %q, %v", s, c, before, after, found)
			}
		}
	}
}

func TestResultsOfSplitJoinedAreTheString(t *testing.T) {
	for _, s := range samples() {
		for _, c := range separators {
			parts := text.Split(s, c)
			if strings.Join(parts, string([]byte{c})) != s {
				t.Errorf("Split(%q, %q) = %q", s, c, parts)
			}
			if len(parts) != strings.Count(s, string([]byte{c}))+1 {
				t.Errorf("Split(%q, %q) has %d parts", s, c, len(parts))
			}
		}
	}
}

func TestLowerDoesNotChangeALowercaseString(t *testing.T) {
	for _, s := range append(samples(), "", "etag", "@[`{", letters, "Ä\u212a\xc3Z") {
		lower := text.Lower(s)
		if again := text.Lower(lower); again != lower {
			t.Errorf("Lower(%q) = %q", lower, again)
		}
		if !text.Same(s, lower) {
			t.Errorf("Same(%q, %q) = false", s, lower)
		}
	}
}

// R3.

func TestNoArgumentIsChanged(t *testing.T) {
	for _, s := range append(samples(), " \tAb, cD\t ", letters, signs) {
		// Another memory than that of s, so that a change of s would show.
		kept := strings.Clone(s)
		text.Lower(s)
		text.Same(s, "aB")
		text.Same("aB", s)
		text.Trim(s)
		text.Token(s)
		text.Plain(s)
		text.Cut(s, ',')
		parts := text.Split(s, ',')
		for i := range parts {
			parts[i] = "x"
		}
		if s != kept {
			t.Errorf("%q became %q", kept, s)
		}
	}
}

func FuzzText(f *testing.F) {
	for _, s := range []string{"", "a,,b", " \tA b\t", "\xc3Z", "x-y"} {
		f.Add(s, byte(','))
	}
	f.Fuzz(func(t *testing.T, s string, c byte) {
		if parts := text.Split(s, c); strings.Join(parts, string([]byte{c})) != s {
			t.Errorf("Split(%q, %q) = %q", s, c, parts)
		}
		lower, trimmed := text.Lower(s), text.Trim(s)
		if text.Lower(lower) != lower || !text.Same(s, lower) || len(lower) != len(s) {
			t.Errorf("Lower(%q) = %q", s, lower)
		}
		if text.Trim(trimmed) != trimmed || !strings.Contains(s, trimmed) {
			t.Errorf("Trim(%q) = %q", s, trimmed)
		}
		if text.Token(s) && !text.Plain(s) {
			t.Errorf("%q is a token that is not printable", s)
		}
	})
}
