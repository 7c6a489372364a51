package fixed_test

import (
	"math/big"
	"math/rand"
	"regexp"
	"strconv"
	"strings"
	"testing"

	"robotics/api"
	"robotics/fixed"
)

// P3.8

func TestFormatExamples(t *testing.T) {
	for _, x := range []struct {
		a    int64
		want string
	}{
		{0, "0.00000"},
		{1, "0.00001"},
		{-1, "-0.00001"},
		{2, "0.00003"},
		{-2, "-0.00003"},
		{65535, "0.99998"},
		{-65535, "-0.99998"},
		{65536, "1.00000"},
		{-65536, "-1.00000"},
		{65537, "1.00001"},
		{98304, "1.50000"},
		{-98304, "-1.50000"},
		{21845, "0.33332"},
		{6554, "0.10000"},
		{6553, "0.09999"},
		{655360, "10.00000"},
		{limit, "2147483648.00000"},
		{-limit, "-2147483648.00000"},
		{limit - 1, "2147483647.99998"},
		{most, "140737488355327.99998"},
		{least, "-140737488355328.00000"},
		{least + 1, "-140737488355327.99998"},
	} {
		if got := fixed.Format(x.a); got != x.want {
			t.Errorf("Format(%d) = %q, want %q", x.a, got, x.want)
		}
	}
}

// formatted is the oracle's Format.
func formatted(a int64) string {
	n := new(big.Int).Mul(new(big.Int).Abs(big.NewInt(a)), big.NewInt(100000))
	text := n.Quo(n, big.NewInt(one)).String()
	text = strings.Repeat("0", max(0, 6-len(text))) + text
	text = text[:len(text)-5] + "." + text[len(text)-5:]
	if a < 0 {
		return "-" + text
	}
	return text
}

func expectFormat(t *testing.T, a int64) {
	t.Helper()
	if got, want := fixed.Format(a), formatted(a); got != want {
		t.Errorf("Format(%d) = %q, want %q", a, got, want)
	}
}

func TestFormatOfEveryFraction(t *testing.T) {
	for n := range int64(one) {
		expectFormat(t, n)
		expectFormat(t, -n)
		expectFormat(t, 7*one+n)
	}
}

func TestFormat(t *testing.T) {
	for _, a := range numbers() {
		expectFormat(t, a)
	}
	r := rand.New(rand.NewSource(6))
	for range 20000 {
		expectFormat(t, randomNumber(r))
	}
}

// P3.9

func TestParseExamples(t *testing.T) {
	for _, x := range []struct {
		s    string
		want int64
	}{
		{"0", 0},
		{"-0", 0},
		{"0.0", 0},
		{"-0.0", 0},
		{"-0.00000", 0},
		{"0.5", 32768},
		{"-0.5", -32768},
		{"1", 65536},
		{"-1", -65536},
		{"7", 458752},
		{"10", 655360},
		{"1.50000", 98304},
		{"-1.5", -98304},
		{"0.00001", 1},
		{"-0.00001", -1},
		{"0.00002", 1},
		{"0.00003", 2},
		{"0.1", 6554},
		{"0.10", 6554},
		{"0.10000", 6554},
		{"0.01", 655},
		{"0.99999", 65535},
		{"1.00001", 65537},
		{"-2.05", -134349},
		{"2147483647", limit - one},
		{"2147483647.99999", limit - 1},
		{"-2147483647.99999", -limit + 1},
		{"2147483648", limit},
		{"2147483648.0", limit},
		{"2147483648.00000", limit},
		{"-2147483648", -limit},
		{"-2147483648.00000", -limit},
	} {
		if got, e := fixed.Parse(x.s); got != x.want || e != api.OK {
			t.Errorf("Parse(%q) = %d, %v, want %d", x.s, got, e, x.want)
		}
	}
}

func TestParseErrors(t *testing.T) {
	malformed := []string{
		"-", ".", "-.", "--", "--1", "1-", "-+1", "+", "+1", "+0", "- 1", "-1-",
		"1.", "-1.", "0.", ".5", "-.5", "..", "1..", "1..5", "..5", "1.5.", "1.5.5", ".1.",
		"00", "-00", "01", "-01", "00.5", "01.5", "0000000000", "0123456789",
		"1.123456", "1.000000", "0.000000", "-1.123456", "1.0000000000",
		"12345678901", "-12345678901", "10000000000", "99999999999", "00000000000", "12345678901.5",
		"1.-5", "1.+5", "-1.-5", "1. 5", "1 .5", " 1", "1 ", "1\n", "\n1", "1.5\n", "\t1", "1\x00", "\x00",
		"a", "x1", "1x", "1.x", "1.5x", "0x1", "1e3", "1.5e3", "1_0", "1.0_1", "1,5", "1/2", "1:2",
		"/", ":", "0/", "0:", "1./", "1.:", "Inf", "NaN", "\u0661", "\uff11", "1.\uff15", "\u22121", "\xff", "1\xff", "1.\xff",
		strings.Repeat("9", 5000), "1." + strings.Repeat("0", 5000), strings.Repeat("-", 5000),
		// The form comes before the range.
		"9999999999.", "9999999999.123456", "9999999999x", "02147483649", "+2147483649",
	}
	for _, s := range malformed {
		if got, e := fixed.Parse(s); got != 0 || e != api.ErrFormat {
			t.Errorf("Parse(%q) = %d, %v", s, got, e)
		}
	}
	for _, s := range []string{
		"2147483648.00001", "-2147483648.00001", "2147483648.1", "2147483648.99999", "2147483649", "-2147483649",
		"4294967296", "9999999999", "-9999999999", "9999999999.99999", "-9999999999.99999",
	} {
		if got, e := fixed.Parse(s); got != 0 || e != api.ErrRange {
			t.Errorf("Parse(%q) = %d, %v", s, got, e)
		}
	}
	if got, e := fixed.Parse(""); got != 0 || e != api.ErrShort {
		t.Errorf("Parse of the empty text = %d, %v", got, e)
	}
}

// parse is the oracle's Parse.
func parse(form *regexp.Regexp, s string) (int64, api.Errno) {
	if s == "" {
		return 0, api.ErrShort
	}
	if !form.MatchString(s) {
		return 0, api.ErrFormat
	}
	r, _ := new(big.Rat).SetString(s)
	if new(big.Rat).Abs(r).Cmp(big.NewRat(1<<31, 1)) > 0 {
		return 0, api.ErrRange
	}
	return nearest(r.Mul(r, big.NewRat(one, 1))).Int64(), api.OK
}

func newForm() *regexp.Regexp {
	return regexp.MustCompile(`\A-?(0|[1-9][0-9]{0,9})(\.[0-9]{1,5})?\z`)
}

func expectParse(t *testing.T, form *regexp.Regexp, s string) {
	t.Helper()
	got, e := fixed.Parse(s)
	if want, wantE := parse(form, s); got != want || e != wantE {
		t.Errorf("Parse(%q) = %d, %v, want %d, %v", s, got, e, want, wantE)
	}
}

// All texts of up to six of these bytes.
func TestParseOfShortTexts(t *testing.T) {
	form := newForm()
	var visit func(s string, left int)
	visit = func(s string, left int) {
		expectParse(t, form, s)
		if left == 0 {
			return
		}
		for _, c := range []string{"0", "1", "9", "-", ".", "x"} {
			visit(s+c, left-1)
		}
	}
	visit("", 6)
}

func TestParseOfEveryFraction(t *testing.T) {
	form := newForm()
	for n := range 100000 {
		digits := strconv.Itoa(n)
		for length := len(digits); length <= 5; length++ {
			fraction := strings.Repeat("0", length-len(digits)) + digits
			expectParse(t, form, "0."+fraction)
			expectParse(t, form, "-70."+fraction)
		}
	}
}

func TestParseOfLongTexts(t *testing.T) {
	form := newForm()
	r := rand.New(rand.NewSource(7))
	for range 50000 {
		s := strconv.FormatInt(r.Int63()>>r.Intn(63), 10)
		if r.Intn(2) == 0 {
			s = "-" + s
		}
		if length := r.Intn(7); length > 0 {
			s += "." + strconv.Itoa(1000000 + r.Intn(1000000))[1:length+1]
		}
		expectParse(t, form, s[:min(len(s), 18)])
	}
}
