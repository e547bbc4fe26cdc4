package tests

import (
	"math"
	"regexp"
	"slices"
	"strconv"
	"strings"
	"testing"
	"unsafe"

	"loop.example/g01167/impl"
)

// long is a string of n bytes without `#` and without the separators that the tests use.
func long(n int) string { return strings.Repeat("x", n) }

// overlap reports whether two strings have a byte of memory in common.
func overlap(a string, b string) bool {
	if a == "" || b == "" {
		return false
	}
	first := uintptr(unsafe.Pointer(unsafe.StringData(a)))
	second := uintptr(unsafe.Pointer(unsafe.StringData(b)))
	return first < second+uintptr(len(b)) && second < first+uintptr(len(a))
}

func TestFormatInt(t *testing.T) {
	for _, c := range []struct {
		n    int
		want string
	}{
		{-12, "-12"}, {0, "0"}, {7, "7"}, {-1, "-1"}, {10, "10"}, {100, "100"}, {-500, "-500"},
		{impl.MaxDecimal, "999999"}, {-impl.MaxDecimal, "-999999"}, {impl.MaxDecimal - 1, "999998"},
	} {
		if s, ok := impl.FormatInt(c.n); s != c.want || !ok {
			t.Errorf("FormatInt(%d) = %q, %v", c.n, s, ok)
		}
	}
	for _, n := range []int{
		impl.MaxDecimal + 1, -impl.MaxDecimal - 1, math.MaxInt, math.MinInt, math.MinInt + 1, math.MaxInt32, 1 << 32,
	} {
		if s, ok := impl.FormatInt(n); s != "" || ok {
			t.Errorf("FormatInt(%d) = %q, %v", n, s, ok)
		}
	}
}

func TestParseInt(t *testing.T) {
	for _, c := range []struct {
		s    string
		want int
	}{
		{"0", 0}, {"-12", -12}, {"7", 7}, {"10", 10}, {"-1", -1}, {"100000", 100000},
		{"999999", impl.MaxDecimal}, {"-999999", -impl.MaxDecimal},
	} {
		if n, ok := impl.ParseInt(c.s); n != c.want || !ok {
			t.Errorf("ParseInt(%q) = %d, %v", c.s, n, ok)
		}
	}
	for _, s := range []string{
		"", "01", "00", "007", "-01", "+1", "+0", "-0", "-00", "-", "+", "--1", "-+1", "1-", "1-2", " 1", "1 ", "1\n",
		"1000000", "-1000000", "999999x", "9999990", "0999999", "18446744073709551617", "-18446744073709551617",
		"9223372036854775808", "-9223372036854775808", "1x", "x1", "1_0", "0x1", "1e3", "1.0", "\x00", "1\x00", "/", ":", "1/", "1:",
		"\xff", "\u0661", "\uff11", strings.Repeat("0", impl.MaxString), strings.Repeat("9", 1000000), "-" + strings.Repeat("1", 1000000),
	} {
		if n, ok := impl.ParseInt(s); n != 0 || ok {
			t.Errorf("ParseInt(%.40q) = %d, %v", s, n, ok)
		}
	}
}

// TestParseIntOfAllShortStrings holds ParseInt against a pattern, for all short strings of some bytes.
func TestParseIntOfAllShortStrings(t *testing.T) {
	pattern := regexp.MustCompile(`^(0|-?[1-9][0-9]*)$`)
	list := []string{""}
	for range 5 {
		var longer []string
		for _, s := range list {
			for _, c := range "-+019 #" {
				longer = append(longer, s+string(c))
			}
		}
		list = longer
		for _, s := range list {
			want, fine := 0, pattern.MatchString(s)
			if fine {
				want, _ = strconv.Atoi(s)
			}
			if n, ok := impl.ParseInt(s); n != want || ok != fine {
				t.Fatalf("ParseInt(%q) = %d, %v", s, n, ok)
			}
		}
	}
}

func TestDecimalsThereAndBack(t *testing.T) {
	for n := -impl.MaxDecimal; n <= impl.MaxDecimal; n++ {
		s, ok := impl.FormatInt(n)
		m, fine := impl.ParseInt(s)
		if !ok || !fine || m != n {
			t.Fatalf("%d is written %q (%v), and read %d (%v)", n, s, ok, m, fine)
		}
	}
}

func TestSplitString(t *testing.T) {
	for _, c := range []struct {
		s, sep string
		want   []string
	}{
		{"a,,b", ",", []string{"a", "", "b"}},
		{"", ",", []string{""}},
		{",", ",", []string{"", ""}},
		{",,", ",", []string{"", "", ""}},
		{",a,", ",", []string{"", "a", ""}},
		{"abc", ",", []string{"abc"}},
		{"a b\nc", "\n", []string{"a b", "c"}},
		{"a\x00b", "\x00", []string{"a", "b"}},
		{"\u00e9", "\xa9", []string{"\xc3", ""}},
		{"a\xffb\xfe", "\xff", []string{"a", "b\xfe"}},
		{long(impl.MaxString), ",", []string{long(impl.MaxString)}},
		{long(impl.MaxString-1) + ",", ",", []string{long(impl.MaxString - 1), ""}},
		{strings.Repeat(",", impl.MaxString), ",", make([]string, impl.MaxString+1)},
	} {
		if parts, ok := impl.SplitString(c.s, c.sep); !slices.Equal(parts, c.want) || !ok {
			t.Errorf("SplitString(%.40q, %q) = %.40q, %v", c.s, c.sep, parts, ok)
		}
	}
	for _, c := range [][2]string{
		{"a,b", ""}, {"a,,b", ",,"}, {"a,;b", ",;"}, {"", ""}, {"", ",,"}, {"a\u00e9b", "\u00e9"},
		{long(impl.MaxString + 1), ","}, {strings.Repeat(",", impl.MaxString+1), ","}, {long(1000000), ","}, {"a,b", long(1000000)},
	} {
		if parts, ok := impl.SplitString(c[0], c[1]); len(parts) != 0 || ok {
			t.Errorf("SplitString(%.40q, %.40q) = %.40q, %v", c[0], c[1], parts, ok)
		}
	}
}

func TestJoinStrings(t *testing.T) {
	half := long(impl.MaxString / 2)
	for _, c := range []struct {
		parts []string
		sep   string
		want  string
	}{
		{[]string{"a", "", "b"}, ";", "a;;b"},
		{[]string{""}, ";", ""},
		{[]string{"", ""}, ";", ";"},
		{[]string{"a"}, ";", "a"},
		{[]string{"a,b", "c"}, ";", "a,b;c"},
		{[]string{"a", "b"}, "\x00", "a\x00b"},
		{[]string{"\xc3", ""}, "\xa9", "\u00e9"},
		{[]string{"a#1", "b#2"}, " ", "a#1 b#2"},
		{[]string{long(impl.MaxString)}, ";", long(impl.MaxString)},
		{[]string{half, half[1:]}, ";", half + ";" + half[1:]},
		{make([]string, impl.MaxString+1), ";", strings.Repeat(";", impl.MaxString)},
	} {
		if s, ok := impl.JoinStrings(c.parts, c.sep); s != c.want || !ok {
			t.Errorf("JoinStrings(%.40q, %q) = %.40q, %v", c.parts, c.sep, s, ok)
		}
	}
}

func TestJoinStringsFails(t *testing.T) {
	half := long(impl.MaxString / 2)
	for _, c := range []struct {
		parts []string
		sep   string
	}{
		{nil, ";"}, {[]string{}, ";"}, {nil, ""},
		{[]string{"a", "b"}, ""}, {[]string{"a", "b"}, ";;"}, {[]string{"a", "b"}, "\u00e9"}, {[]string{"a"}, ""}, {[]string{"a"}, ";;"},
		{[]string{"a;b"}, ";"}, {[]string{";"}, ";"}, {[]string{";a", "b"}, ";"}, {[]string{"a", "b;"}, ";"}, {[]string{"a", "b;c", "d"}, ";"},
		{[]string{"\u00e9"}, "\xa9"},
		{[]string{long(impl.MaxString + 1)}, ";"}, {[]string{half, half}, ";"}, {[]string{long(impl.MaxString), ""}, ";"},
		{make([]string, impl.MaxString+2), ";"}, {make([]string, 1000000), ";"}, {[]string{long(1000000)}, ";"},
	} {
		if s, ok := impl.JoinStrings(c.parts, c.sep); s != "" || ok {
			t.Errorf("JoinStrings(%.40q, %q) = %.40q, %v", c.parts[:min(3, len(c.parts))], c.sep, s, ok)
		}
	}
}

// TestSplittingThereAndBack splits and joins all short strings of some bytes, and joins and splits all short lists.
func TestSplittingThereAndBack(t *testing.T) {
	list := []string{""}
	for range 6 {
		var longer []string
		for _, s := range list {
			for _, c := range []string{",", ";", "a", "\xff"} {
				longer = append(longer, s+c)
			}
		}
		for _, s := range longer {
			parts, ok := impl.SplitString(s, ",")
			back, fine := impl.JoinStrings(parts, ",")
			if !ok || !fine || back != s || len(parts) != strings.Count(s, ",")+1 {
				t.Fatalf("%q is split into %q (%v), and joined to %q (%v)", s, parts, ok, back, fine)
			}
			spread, ok := impl.JoinStrings(parts, "|")
			again, fine := impl.SplitString(spread, "|")
			if !ok || !fine || !slices.Equal(again, parts) {
				t.Fatalf("%q is joined to %q (%v), and split into %q (%v)", parts, spread, ok, again, fine)
			}
		}
		list = longer
	}
}

func TestLessString(t *testing.T) {
	ascending := []string{
		"", "\x00", "\x00\x00", "\x01", " ", "#", "-1", "0", "1", "10", "2", "A", "Z", "a", "a\x00", "aa", "ab", "abc", "ab\xff", "b",
		long(impl.MaxString), long(impl.MaxString + 1), long(impl.MaxString) + "y", "\x7f", "\x80", "\u00e9", "\uffff", "\U00010000", "\xfe", "\xff", "\xff\x00",
	}
	for i, a := range ascending {
		for j, b := range ascending {
			if impl.LessString(a, b) != (i < j) {
				t.Errorf("LessString(%.20q, %.20q) = %v", a, b, i >= j)
			}
		}
	}
}

func TestChecksum(t *testing.T) {
	for _, c := range []struct {
		s    string
		want int
	}{
		// Each one is 41 times the one of its prefix, plus the last byte, plus 1.
		{"", 7}, {"a", 385}, {"ab", 15884}, {"abc", 651344}, {"abcd", 705751},
		{"\x00", 288}, {"\xff", 543}, {"#", 323}, {"\u00e9", (483*41 + 0xa9 + 1) % 999979},
	} {
		if n, ok := impl.Checksum(c.s); n != c.want || !ok {
			t.Errorf("Checksum(%q) = %d, %v", c.s, n, ok)
		}
	}
	whole := strings.Repeat("\xffz\x00", impl.MaxString)[:impl.MaxString]
	want := 7
	for i := range len(whole) {
		want = (41*want + int(whole[i]) + 1) % 999979
		if n, ok := impl.Checksum(whole[:i+1]); n != want || !ok {
			t.Fatalf("checksum of %d bytes: %d, %v", i+1, n, ok)
		}
	}
	for _, s := range []string{long(impl.MaxString + 1), long(1000000), strings.Repeat("\x00", impl.MaxString+1)} {
		if n, ok := impl.Checksum(s); n != 0 || ok {
			t.Errorf("checksum of %d bytes: %d, %v", len(s), n, ok)
		}
	}
}

func TestAppendChecksum(t *testing.T) {
	for _, c := range [][2]string{
		{"a", "a#385"}, {"", "#7"}, {"ab", "ab#15884"}, {"abcd", "abcd#705751"}, {"\x00", "\x00#288"}, {"\xff", "\xff#543"}, {"a b\n", "a b\n#594674"},
	} {
		if s, ok := impl.AppendChecksum(c[0]); s != c[1] || !ok {
			t.Errorf("AppendChecksum(%q) = %q, %v", c[0], s, ok)
		}
	}
	for _, s := range []string{
		"#", "a#", "#a", "a#b", "a#385", "##", long(impl.MaxString), long(impl.MaxString - 1), long(impl.MaxString + 1), long(1000000),
		long(100) + "#", "#" + long(100),
	} {
		if x, ok := impl.AppendChecksum(s); x != "" || ok {
			t.Errorf("AppendChecksum(%.40q) = %.40q, %v", s, x, ok)
		}
	}
}

// withDigits returns a string of n bytes whose checksum has so many digits.
func withDigits(t *testing.T, n int, digits int) string {
	for i := 10000; i < 100000; i++ {
		s := long(n-5) + strconv.Itoa(i)
		sum, _ := impl.Checksum(s)
		if len(strconv.Itoa(sum)) == digits {
			return s
		}
	}
	t.Fatal("no string of", n, "bytes with a checksum of", digits, "digits")
	return ""
}

// TestLongestSealed seals strings whose results would have MaxString bytes, and one more.
func TestLongestSealed(t *testing.T) {
	for digits := 4; digits <= 6; digits++ {
		s := withDigits(t, impl.MaxString-1-digits, digits)
		sealed, ok := impl.AppendChecksum(s)
		if len(sealed) != impl.MaxString || !ok {
			t.Error("not sealed, with digits:", digits, len(sealed))
		}
		if back, ok := impl.VerifyChecksum(sealed); back != s || !ok {
			t.Error("not opened, with digits:", digits)
		}
		s = withDigits(t, impl.MaxString-digits, digits)
		if sealed, ok := impl.AppendChecksum(s); sealed != "" || ok {
			t.Error("sealed, with digits:", digits, len(sealed))
		}
		sum, _ := impl.Checksum(s)
		if back, ok := impl.VerifyChecksum(s + "#" + strconv.Itoa(sum)); back != "" || ok {
			t.Error("opened one that is too long, with digits:", digits)
		}
	}
}

func TestVerifyChecksum(t *testing.T) {
	for _, c := range [][2]string{{"a#385", "a"}, {"#7", ""}, {"ab#15884", "ab"}, {"\x00#288", "\x00"}, {"\xff#543", "\xff"}} {
		if s, ok := impl.VerifyChecksum(c[0]); s != c[1] || !ok {
			t.Errorf("VerifyChecksum(%q) = %q, %v", c[0], s, ok)
		}
	}
	inner, _ := impl.Checksum("a#385")
	for _, s := range []string{
		"", "a", "#", "a#", "a#384", "a#0385", "a#+385", "a#-385", "a# 385", "a#385 ", "a#385\n", "a385", "b#385", "a#385#", "a##385", "#385",
		"#07", "#8", "7", "385#a", "a#38", "a#3850", "a#1000364", "a#385#" + strconv.Itoa(inner), "#a#385",
		long(impl.MaxString), long(impl.MaxString + 1), long(1000000) + "#1", "a#" + strings.Repeat("0", 1000000) + "385", strings.Repeat("#", 1000000),
	} {
		if x, ok := impl.VerifyChecksum(s); x != "" || ok {
			t.Errorf("VerifyChecksum(%.40q) = %q, %v", s, x, ok)
		}
	}
}

// TestChangedBytes seals strings, opens them again, and changes each byte into each other one.
func TestChangedBytes(t *testing.T) {
	for _, s := range []string{"", "a", "ab", "abcd", "\x00", "\xff\xff", "7", "385", "0 sit 3@1", "0 polite@4\n", "a\"b%c\x22\x24", long(60)} {
		sealed, ok := impl.AppendChecksum(s)
		if back, fine := impl.VerifyChecksum(sealed); !ok || !fine || back != s {
			t.Errorf("%q is sealed as %q (%v), and opened as %q (%v)", s, sealed, ok, back, fine)
		}
		for i := range len(sealed) {
			for c := 1; c < 256; c++ {
				noChange(t, sealed, i, byte(c))
			}
		}
	}
	sealed, _ := impl.AppendChecksum(withDigits(t, impl.MaxString-7, 6))
	for i := range len(sealed) {
		for _, c := range []byte{1, 128, 255, 'x' ^ '#'} {
			noChange(t, sealed, i, c)
		}
	}
}

// noChange changes some bits of a byte of a sealed string, and expects that it is not opened.
func noChange(t *testing.T, sealed string, at int, bits byte) {
	b := []byte(sealed)
	b[at] ^= bits
	if x, ok := impl.VerifyChecksum(string(b)); x != "" || ok {
		t.Errorf("%.80q with another byte at %d, %d, is opened", sealed, at, b[at])
	}
}

func TestStringsAreTheSameAgain(t *testing.T) {
	for range 3 {
		parts, ok := impl.SplitString("a,b,c", ",")
		if !slices.Equal(parts, []string{"a", "b", "c"}) || !ok {
			t.Fatal("split", parts, ok)
		}
		parts[0], parts[2] = "changed", "too"
		_ = append(parts, "more")
		if s, ok := impl.AppendChecksum("a"); s != "a#385" || !ok {
			t.Fatal("sealed", s, ok)
		}
		if _, ok := impl.VerifyChecksum("a#384"); ok {
			t.Fatal("opened")
		}
	}
}

func TestJoinStringsModifiesNothing(t *testing.T) {
	whole := []string{"before", "a", "", "b", "behind", "this"}
	for _, sep := range []string{";", "a", "", ";;"} {
		kept := slices.Clone(whole)
		impl.JoinStrings(whole[1:4], sep)
		if !slices.Equal(whole, kept) {
			t.Fatalf("JoinStrings with %q changed its argument: %q", sep, whole)
		}
	}
	joined, _ := impl.JoinStrings(whole[1:4], ";")
	whole[1], whole[3] = "x", "y"
	if joined != "a;;b" {
		t.Error("changed behind the call:", joined)
	}
}

func TestStringsShareNoMemory(t *testing.T) {
	s := strings.Clone("first,second,,third")
	parts, _ := impl.SplitString(s, ",")
	for i, a := range parts {
		if overlap(a, s) {
			t.Error("a part lies in what was split:", a)
		}
		for _, b := range parts[:i] {
			if overlap(a, b) {
				t.Error("parts lie in each other:", a, b)
			}
		}
	}
	if whole, _ := impl.SplitString(s, ";"); len(whole) != 1 || overlap(whole[0], s) {
		t.Error("the only part is what was split")
	}
	for _, list := range [][]string{{s}, {s, ""}, {"", s}} {
		if joined, ok := impl.JoinStrings(list, ";"); !ok || overlap(joined, s) {
			t.Error("what is joined is an element:", joined)
		}
	}
	sealed, _ := impl.AppendChecksum(s)
	opened, _ := impl.VerifyChecksum(sealed)
	if overlap(sealed, s) || opened != s || overlap(opened, sealed) {
		t.Error("sealed or opened strings lie in each other")
	}
}
