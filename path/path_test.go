package path

import (
	"bytes"
	"math"
	"math/big"
	"math/rand"
	"regexp"
	"slices"
	"strconv"
	"strings"
	"testing"

	"regency/api"
	"regency/fault"
	"regency/tape"
)

// form is the form of a path's text as the document defines it, but for how great its numbers may be.
var form = regexp.MustCompile(`\A(|(?:0|[1-9][0-9]*)(?:\.(?:0|[1-9][0-9]*)){0,5})\z`)

// byText is what parsing s should return, found with numbers of any size.
func byText(s string) ([]int, bool) {
	if !form.MatchString(s) {
		return nil, false
	}
	if s == "" {
		return nil, true
	}
	var p []int
	for _, part := range strings.Split(s, ".") {
		n, ok := new(big.Int).SetString(part, 10)
		if !ok || n.Cmp(big.NewInt(1<<20)) > 0 {
			return nil, false
		}
		p = append(p, int(n.Int64()))
	}
	return p, true
}

// join is the text of p, built from numbers of any size.
func join(p []int) string {
	s := ""
	for i, n := range p {
		if i > 0 {
			s += "."
		}
		s += big.NewInt(int64(n)).String()
	}
	return s
}

// rises returns paths in their order. Their texts are ordered otherwise.
func rises() [][]int {
	return [][]int{
		{},
		{0}, {0, 0}, {0, 0, 0}, {0, 0, 0, 0, 0, 0}, {0, 0, 0, 0, 0, 1}, {0, 0, 0, 0, 0, 1 << 20}, {0, 0, 0, 0, 1}, {0, 1}, {0, 1 << 20},
		{1}, {1, 0}, {1, 2}, {1, 2, 3}, {1, 2, 3, 4}, {1, 2, 3, 4, 5}, {1, 2, 3, 4, 5, 6}, {1, 2, 3, 4, 5, 7}, {1, 2, 3, 10}, {1, 2, 9}, {1, 2, 10, 4, 5, 6}, {1, 3}, {1, 3, 20}, {1, 9}, {1, 10}, {1, 10, 3}, {1, 20}, {1, 100}, {1, 1 << 20},
		{2}, {2, 1}, {3}, {9}, {9, 10}, {10}, {10, 9}, {11}, {20}, {99}, {100}, {1000000}, {1<<20 - 1}, {1<<20 - 1, 1 << 20},
		{1 << 20}, {1 << 20, 0}, {1 << 20, 1 << 20}, {1 << 20, 1 << 20, 1 << 20, 1 << 20, 1 << 20, 1 << 20},
	}
}

// randomPath returns a path with small numbers, so that prefixes and equal ones occur, and great ones.
func randomPath(r *rand.Rand) []int {
	var p []int
	for range r.Intn(7) {
		p = append(p, r.Intn([]int{2, 3, 12, 200, 1<<20 + 1}[r.Intn(5)]))
	}
	return p
}

// paths returns paths in no order.
func paths() [][]int {
	l := append(rises(), nil)
	r := rand.New(rand.NewSource(1))
	for range 60 {
		l = append(l, randomPath(r))
	}
	return l
}

// outside returns numbers that no path has.
func outside() []int {
	return []int{-1, -2, -10, -1 << 20, -1<<20 - 1, math.MinInt, math.MinInt + 1, 1<<20 + 1, 1<<20 + 2, 1 << 21, 1 << 32, 1<<32 + 1, 1<<62 - 1, 1 << 62, math.MaxInt - 1, math.MaxInt}
}

// notPaths returns lists that are not paths, for each reason.
func notPaths() [][]int {
	l := [][]int{{1, 2, 3, 4, 5, 6, 7}, {0, 0, 0, 0, 0, 0, 0}, {1, 2, 3, 4, 5, 6, 7, 8}, make([]int, 100), {1, 2, 3, 4, 5, 6, -1}, {-1, -1}, {1<<20 + 1, 1<<20 + 1}, {-1, 1<<20 + 1}}
	for _, n := range outside() {
		l = append(l, []int{n}, []int{n, 1}, []int{1, n}, []int{1, n, 2}, []int{1, 2, 3, 4, 5, n}, []int{n, 2, 3, 4, 5, 6})
	}
	return l
}

// lists returns paths and lists that are not paths.
func lists() [][]int {
	return slices.Concat(paths(), notPaths())
}

// wrongTexts returns strings that are not the text of a path.
func wrongTexts() []string {
	return []string{
		".", "..", "...", "1.", ".1", "1..2", "1.2.", ".1.2", "1...2", ".1.", "0.", ".0",
		"00", "01", "001", "0001048576", "1.00", "1.01", "01.1", "1.02.3", "0.0.00", "1.2.3.4.5.06",
		"-0", "-1", "+0", "+1", "--1", "1-", "1+", "1.-1", "1.+1", "-1.1", "+1.1", "1.2.3.4.5.-6", "1.2.3.4.5.+6", "\u22121",
		"1048577", "1048580", "1100000", "2000000", "9999999", "10485760", "1.1048577", "1048577.1", "1.2.3.4.5.1048577", "1048577.2.3.4.5.6",
		"4294967296", "4294967297", "9223372036854775807", "9223372036854775808", "18446744073709551616", "18446744073709551617", "1.18446744073709551617", "-18446744073709551615",
		strings.Repeat("9", 100), "1" + strings.Repeat("0", 100), strings.Repeat("0", 100), strings.Repeat("0", 100) + "1",
		"1.2.3.4.5.6.7", "0.0.0.0.0.0.0", "1.2.3.4.5.6.7.8", "1.2.3.4.5.6.", ".1.2.3.4.5.6", "1.2.3.4.5.6.x", "1.2.3.4.5.6..", "......", ".......",
		"a", "x", "A", "1a", "a1", "1.a", "a.1", "0x1", "0b1", "0o7", "1e3", "1_0", "1_000", "_1", "1.5e0", "NaN", "Inf", "true", "-", "+", "/", "1/0", "/0", "1/2", "1,2", "1;2", "1:2", "1 2", "1. 2", "1 .2",
		" ", " 1", "1 ", "\t1", "1\n", "\n", "1\r", "1\x00", "\x00", "\x001", "1\x002", "\xff", "1\xff", "1.\xff",
		"\u0661", "1.\u0661", "\uff11", "1\uff0e2", "1\u30022", "\u00b2", "(1)", "[1]", "[]", "{}", "\"1\"", "1'",
	}
}

// checkParse holds Parse of s against what it should return.
func checkParse(t *testing.T, s string, want []int, ok bool) {
	t.Helper()
	if p, is := Parse(s); !slices.Equal(p, want) || is != ok {
		t.Errorf("%.80q: %v %v, not %v %v", s, p, is, want, ok)
	}
}

func TestLimits(t *testing.T) {
	if api.MostDepth != 6 || api.MostNumber != 1<<20 {
		t.Errorf("the tests are for other limits")
	}
}

// P8.1

func TestRight(t *testing.T) {
	for _, p := range paths() {
		if !Right(p) {
			t.Errorf("%v is a path", p)
		}
	}
	for _, p := range notPaths() {
		if Right(p) {
			t.Errorf("%v is not a path", p)
		}
	}
}

func TestRightLengths(t *testing.T) {
	for length := range 20 {
		for _, n := range []int{0, 1, 1 << 20} {
			p := slices.Repeat([]int{n}, length)
			if Right(p) != (length <= 6) {
				t.Errorf("%d numbers %d", length, n)
			}
		}
	}
}

// Each number at each place of a path of each length.
func TestRightNumbers(t *testing.T) {
	for length := 1; length <= 6; length++ {
		for place := range length {
			for _, n := range append(outside(), 0, 1, 9, 10, 1<<20-1, 1<<20) {
				p := []int{3, 3, 3, 3, 3, 3}[:length]
				p[place] = n
				if Right(p) != (n >= 0 && n <= 1<<20) {
					t.Errorf("%v", p)
				}
			}
		}
	}
}

func TestText(t *testing.T) {
	for _, x := range []struct {
		p    []int
		want string
	}{
		{nil, ""},
		{[]int{}, ""},
		{[]int{0}, "0"},
		{[]int{1}, "1"},
		{[]int{0, 0}, "0.0"},
		{[]int{1, 3}, "1.3"},
		{[]int{10, 200, 3000}, "10.200.3000"},
		{[]int{1 << 20}, "1048576"},
		{[]int{1, 2, 3, 4, 5, 6}, "1.2.3.4.5.6"},
		{[]int{1 << 20, 1 << 20, 1 << 20, 1 << 20, 1 << 20, 1 << 20}, "1048576.1048576.1048576.1048576.1048576.1048576"},
		// Lists that are not paths.
		{[]int{1, 2, 3, 4, 5, 6, 7}, "1.2.3.4.5.6.7"},
		{[]int{1<<20 + 1}, "1048577"},
		{[]int{-1}, "-1"},
		{[]int{1, -20, 3}, "1.-20.3"},
		{[]int{math.MaxInt}, "9223372036854775807"},
		{[]int{math.MinInt}, "-9223372036854775808"},
		{[]int{0, math.MinInt, math.MaxInt, 0}, "0.-9223372036854775808.9223372036854775807.0"},
	} {
		if s := Text(x.p); s != x.want {
			t.Errorf("%v: %q, not %q", x.p, s, x.want)
		}
	}
}

func TestTextOfAnyNumbers(t *testing.T) {
	for _, p := range lists() {
		if s := Text(p); s != join(p) {
			t.Errorf("%v: %q", p, s)
		}
	}
	r := rand.New(rand.NewSource(2))
	for range 5000 {
		var p []int
		for range r.Intn(12) {
			p = append(p, int(r.Uint64())>>r.Intn(64))
		}
		if s := Text(p); s != join(p) {
			t.Fatalf("%v: %q", p, s)
		}
	}
}

func TestParse(t *testing.T) {
	for _, x := range []struct {
		s    string
		want []int
	}{
		{"", nil},
		{"0", []int{0}},
		{"1", []int{1}},
		{"10", []int{10}},
		{"0.0", []int{0, 0}},
		{"1.3", []int{1, 3}},
		{"1048575", []int{1<<20 - 1}},
		{"1048576", []int{1 << 20}},
		{"1.0.1048576.4.5.6", []int{1, 0, 1 << 20, 4, 5, 6}},
		{"0.0.0.0.0.0", []int{0, 0, 0, 0, 0, 0}},
		{"1048576.1048576.1048576.1048576.1048576.1048576", []int{1 << 20, 1 << 20, 1 << 20, 1 << 20, 1 << 20, 1 << 20}},
	} {
		checkParse(t, x.s, x.want, true)
	}
}

func TestParseWrongTexts(t *testing.T) {
	for _, s := range wrongTexts() {
		checkParse(t, s, nil, false)
	}
}

// The text of a list that is not a path is not that of any.
func TestParseNotPaths(t *testing.T) {
	for _, p := range notPaths() {
		checkParse(t, Text(p), nil, false)
	}
}

// All strings of up to eight letters, of those that matter.
func TestParseAllShort(t *testing.T) {
	l := []string{""}
	for range 9 {
		var longer []string
		for _, s := range l {
			p, ok := byText(s)
			checkParse(t, s, p, ok)
			for _, c := range "01.-" {
				longer = append(longer, s+string(c))
			}
		}
		l = longer
	}
}

// Each byte in place of each letter of a text, and ahead of it.
func TestParseAnyByte(t *testing.T) {
	const text = "10.3.250"
	for i := range len(text) + 1 {
		for c := range 256 {
			start := text[:i] + string([]byte{byte(c)})
			l := []string{start + text[i:]}
			if i < len(text) {
				l = append(l, start+text[i+1:])
			}
			for _, s := range l {
				p, ok := byText(s)
				checkParse(t, s, p, ok)
			}
		}
	}
}

func TestParseRandom(t *testing.T) {
	const letters = "00112233456789.....-+ a"
	r := rand.New(rand.NewSource(3))
	parsed := 0
	for range 100000 {
		b := make([]byte, r.Intn(16))
		for i := range b {
			b[i] = letters[r.Intn(len(letters))]
		}
		p, ok := byText(string(b))
		checkParse(t, string(b), p, ok)
		if ok {
			parsed++
		}
	}
	if parsed < 1000 {
		t.Errorf("%d paths", parsed)
	}
}

// Every number near the greatest one, and every one of up to four digits.
func TestParseNumbers(t *testing.T) {
	for n := range 10000 {
		checkParse(t, strconv.Itoa(n), []int{n}, true)
	}
	for n := 1<<20 - 2000; n < 1<<20+2000; n++ {
		s := strconv.Itoa(n)
		if n > 1<<20 {
			checkParse(t, s, nil, false)
			checkParse(t, "1."+s, nil, false)
			continue
		}
		checkParse(t, s, []int{n}, true)
		checkParse(t, "1."+s, []int{1, n}, true)
	}
}

// checkParent holds Parent of p, which is not the root, against parent and n.
func checkParent(t *testing.T, p, parent []int, n int) {
	t.Helper()
	if q, last, ok := Parent(p); !slices.Equal(q, parent) || last != n || !ok {
		t.Errorf("%v: %v %d %v, not %v %d", p, q, last, ok, parent, n)
	}
}

func TestParent(t *testing.T) {
	checkParent(t, []int{1, 3}, []int{1}, 3)
	checkParent(t, []int{3, 1}, []int{3}, 1)
	checkParent(t, []int{0}, nil, 0)
	checkParent(t, []int{7}, nil, 7)
	checkParent(t, []int{0, 0}, []int{0}, 0)
	checkParent(t, []int{5, 1 << 20}, []int{5}, 1<<20)
	checkParent(t, []int{1, 2, 3, 4, 5, 6}, []int{1, 2, 3, 4, 5}, 6)
}

func TestParentOfRoot(t *testing.T) {
	for _, p := range [][]int{nil, {}, make([]int, 0, 5)} {
		if q, n, ok := Parent(p); len(q) != 0 || n != 0 || ok {
			t.Errorf("%v %d %v", q, n, ok)
		}
	}
}

// The root alone has no parent: a list that is not a path has its numbers but the last one.
func TestParentOfNotPaths(t *testing.T) {
	checkParent(t, []int{-1}, nil, -1)
	checkParent(t, []int{1, math.MinInt}, []int{1}, math.MinInt)
	checkParent(t, []int{math.MaxInt, 1}, []int{math.MaxInt}, 1)
	checkParent(t, []int{1, 2, 3, 4, 5, 6, 7}, []int{1, 2, 3, 4, 5, 6}, 7)
	checkParent(t, []int{1, 2, 3, 4, 5, 6, 7, 8}, []int{1, 2, 3, 4, 5, 6, 7}, 8)
	for _, p := range notPaths() {
		checkParent(t, p, p[:len(p)-1], p[len(p)-1])
	}
}

// checkChild holds Child of p and n against want.
func checkChild(t *testing.T, p []int, n int, want []int) {
	t.Helper()
	if c, ok := Child(p, n); !slices.Equal(c, want) || !ok {
		t.Errorf("%v, %d: %v %v, not %v", p, n, c, ok, want)
	}
}

// checkNoChild fails if p and n have a child.
func checkNoChild(t *testing.T, p []int, n int) {
	t.Helper()
	if c, ok := Child(p, n); len(c) != 0 || ok {
		t.Errorf("%v, %d: %v %v", p, n, c, ok)
	}
}

func TestChild(t *testing.T) {
	checkChild(t, nil, 0, []int{0})
	checkChild(t, []int{}, 7, []int{7})
	checkChild(t, []int{1}, 3, []int{1, 3})
	checkChild(t, []int{3}, 1, []int{3, 1})
	checkChild(t, []int{1}, 1<<20, []int{1, 1 << 20})
	checkChild(t, []int{1 << 20}, 0, []int{1 << 20, 0})
	checkChild(t, []int{1, 2, 3, 4, 5}, 6, []int{1, 2, 3, 4, 5, 6})
}

func TestNoChild(t *testing.T) {
	for _, n := range outside() {
		checkNoChild(t, nil, n)
		checkNoChild(t, []int{1}, n)
		checkNoChild(t, []int{1, 2, 3, 4, 5}, n)
	}
	for _, n := range append(outside(), 0, 1, 7, 1<<20) {
		checkNoChild(t, []int{1, 2, 3, 4, 5, 6}, n)
		for _, p := range notPaths() {
			checkNoChild(t, p, n)
		}
	}
}

// P8.2

// isBelow reports whether p is below top, as the document defines it.
func isBelow(p, top []int) bool {
	if len(top) >= len(p) {
		return false
	}
	for i, n := range top {
		if p[i] != n {
			return false
		}
	}
	return true
}

func TestBelow(t *testing.T) {
	for _, x := range []struct {
		p, top []int
		want   bool
	}{
		{nil, nil, false},
		{[]int{}, nil, false},
		{nil, []int{}, false},
		{nil, []int{1}, false},
		{[]int{1}, nil, true},
		{[]int{1}, []int{}, true},
		{[]int{0}, nil, true},
		{[]int{1}, []int{1}, false},
		{[]int{1, 2}, []int{1}, true},
		{[]int{1, 2}, []int{2}, false},
		{[]int{1, 2}, []int{1, 2}, false},
		{[]int{1, 2}, []int{1, 3}, false},
		{[]int{1}, []int{1, 2}, false},
		{[]int{1, 2, 3}, []int{1}, true},
		{[]int{1, 2, 3}, []int{1, 3}, false},
		{[]int{1, 2, 3}, []int{2, 3}, false},
		{[]int{1, 0}, []int{1}, true},
		{[]int{12}, []int{1}, false},
		{[]int{1, 23}, []int{1, 2}, false},
		{[]int{1, 2, 3, 4, 5, 6}, nil, true},
		{[]int{1, 2, 3, 4, 5, 6}, []int{1, 2, 3, 4, 5}, true},
		{[]int{1, 2, 3, 4, 5, 6}, []int{1, 2, 3, 4, 6}, false},
		{[]int{1, 2, 3, 4, 5, 6}, []int{1, 2, 3, 4, 5, 6}, false},
		{[]int{1, 2, 3, 4, 5, 6}, []int{0, 2, 3}, false},
	} {
		if Below(x.p, x.top) != x.want {
			t.Errorf("%v, %v: %v", x.p, x.top, !x.want)
		}
	}
}

// small returns all lists of up to four of the numbers 0, 1 and 2.
func small() [][]int {
	l := [][]int{nil}
	for from, length := 0, 0; length < 4; length++ {
		to := len(l)
		for _, p := range l[from:to] {
			for n := range 3 {
				l = append(l, slices.Concat(p, []int{n}))
			}
		}
		from = to
	}
	return l
}

func TestBelowAll(t *testing.T) {
	for _, l := range [][][]int{small(), lists()} {
		for _, p := range l {
			for _, top := range l {
				if Below(p, top) != isBelow(p, top) {
					t.Fatalf("%v, %v: %v", p, top, !isBelow(p, top))
				}
			}
		}
	}
}

// checkOrder holds Compare of all lists of l, which are in order, against their places.
func checkOrder(t *testing.T, l [][]int) {
	t.Helper()
	for i, p := range l {
		for j, q := range l {
			want := 0
			if i < j {
				want = -1
			} else if i > j {
				want = 1
			}
			if v := Compare(p, q); v != want {
				t.Errorf("%v, %v: %d, not %d", p, q, v, want)
			}
		}
	}
}

func TestCompare(t *testing.T) {
	checkOrder(t, rises())
	// A prefix; one that differs in the middle; and where the order of the texts is another one.
	checkOrder(t, [][]int{{}, {1}, {1, 2}, {1, 2, 9}, {1, 10}, {2}})
	checkOrder(t, [][]int{{1, 2, 3, 9}, {1, 3, 3, 0}})
	checkOrder(t, [][]int{{5, 9}, {5, 10}, {10}})
	checkOrder(t, [][]int{{9, 9, 9, 9, 9, 9}, {10}})
}

func TestCompareEqual(t *testing.T) {
	for _, p := range lists() {
		if Compare(p, p) != 0 || Compare(p, slices.Clone(p)) != 0 {
			t.Errorf("%v is not equal to itself", p)
		}
	}
	if Compare(nil, []int{}) != 0 || Compare([]int{}, nil) != 0 {
		t.Errorf("nil and empty ones differ")
	}
}

// Numbers whose difference is not a number of 64 bits are ordered too.
func TestCompareGreatNumbers(t *testing.T) {
	checkOrder(t, [][]int{{}, {math.MinInt}, {math.MinInt, 0}, {-1}, {0}, {0, math.MinInt}, {0, math.MaxInt}, {1 << 62}, {math.MaxInt}, {math.MaxInt, math.MinInt}})
	checkOrder(t, [][]int{{1, 2, 3, 4, 5, 6}, {1, 2, 3, 4, 5, 6, 7}, {1, 2, 3, 4, 5, 6, 8}, {1, 2, 3, 4, 5, 6, 8, 0}})
}

// comesBefore reports whether p is before q, as the document defines it.
func comesBefore(p, q []int) bool {
	for i := range min(len(p), len(q)) {
		if p[i] != q[i] {
			return p[i] < q[i]
		}
	}
	return len(p) < len(q)
}

func TestCompareAll(t *testing.T) {
	for _, l := range [][][]int{small(), lists()} {
		for _, p := range l {
			for _, q := range l {
				want := 0
				if comesBefore(p, q) {
					want = -1
				} else if comesBefore(q, p) {
					want = 1
				}
				if v := Compare(p, q); v != want || (v == 0) != slices.Equal(p, q) {
					t.Fatalf("%v, %v: %d, not %d", p, q, v, want)
				}
			}
		}
	}
}

func TestSorting(t *testing.T) {
	r := rand.New(rand.NewSource(4))
	l := rises()
	r.Shuffle(len(l), func(i, j int) { l[i], l[j] = l[j], l[i] })
	slices.SortFunc(l, Compare)
	for i, p := range rises() {
		if !slices.Equal(l[i], p) {
			t.Errorf("%d: %v, not %v", i, l[i], p)
		}
	}
}

// same reports whether two lists of paths are equal.
func same(a, b [][]int) bool {
	return slices.EqualFunc(a, b, slices.Equal[[]int])
}

// upTo returns the first n of what Ways of p yields, or all of it if there is less.
func upTo(p []int, n int) [][]int {
	var l [][]int
	for w := range Ways(p) {
		if len(l) == n {
			break
		}
		l = append(l, w)
	}
	return l
}

func TestWays(t *testing.T) {
	for _, x := range []struct {
		p    []int
		want [][]int
	}{
		{nil, nil},
		{[]int{}, nil},
		{[]int{0}, [][]int{{}}},
		{[]int{5}, [][]int{{}}},
		{[]int{1, 3}, [][]int{{}, {1}}},
		{[]int{1, 1, 1}, [][]int{{}, {1}, {1, 1}}},
		{[]int{6, 5, 4, 3, 2, 1}, [][]int{{}, {6}, {6, 5}, {6, 5, 4}, {6, 5, 4, 3}, {6, 5, 4, 3, 2}}},
		// Lists that are not paths.
		{[]int{-1, 1 << 40}, [][]int{{}, {-1}}},
		{[]int{1, 2, 3, 4, 5, 6, 7}, [][]int{{}, {1}, {1, 2}, {1, 2, 3}, {1, 2, 3, 4}, {1, 2, 3, 4, 5}, {1, 2, 3, 4, 5, 6}}},
	} {
		if l := slices.Collect(Ways(x.p)); !same(l, x.want) {
			t.Errorf("%v: %v, not %v", x.p, l, x.want)
		}
	}
}

// Ways yields just what a path is below, in order.
func TestWaysAreAbove(t *testing.T) {
	for _, p := range lists() {
		l := slices.Collect(Ways(p))
		if len(l) != len(p) {
			t.Fatalf("%v: %v", p, l)
		}
		for i, w := range l {
			if len(w) != i || !Below(p, w) || Compare(w, p) != -1 {
				t.Errorf("%v: %v", p, w)
			}
			if i > 0 && !Below(w, l[i-1]) {
				t.Errorf("%v: %v behind %v", p, w, l[i-1])
			}
		}
		if parent, _, ok := Parent(p); ok && !slices.Equal(parent, l[len(l)-1]) {
			t.Errorf("%v: the last one is %v", p, l[len(l)-1])
		}
	}
}

// A loop that stops is not gone on with, wherever it stops.
func TestWaysStop(t *testing.T) {
	p := []int{1, 2, 3, 4, 5, 6}
	for n := range len(p) + 1 {
		if l := upTo(p, n); !same(l, slices.Collect(Ways(p))[:n]) {
			t.Errorf("%d: %v", n, l)
		}
		asked := 0
		Ways(p)(func([]int) bool {
			asked++
			return asked < n
		})
		if asked != max(n, 1) {
			t.Errorf("%d: %d steps", n, asked)
		}
	}
}

// All loops over one result yield the same, also within each other and after one that stopped.
func TestWaysAgain(t *testing.T) {
	p := []int{1, 2, 3}
	ways := Ways(p)
	for range ways {
		break
	}
	n := 0
	for outer := range ways {
		if !slices.Equal(outer, p[:n]) {
			t.Errorf("%d: %v", n, outer)
		}
		if l := slices.Collect(ways); !same(l, [][]int{{}, {1}, {1, 2}}) {
			t.Errorf("%d: %v", n, l)
		}
		n++
	}
	if n != 3 {
		t.Errorf("%d steps", n)
	}
}

// What a step yielded is its own: writing over it, with its spare capacity, changes neither other steps nor the argument.
func TestWaysAreNew(t *testing.T) {
	for _, x := range paths() {
		p := roomy(x)
		var l [][]int
		for w := range Ways(p) {
			if !slices.Equal(w, x[:len(l)]) {
				t.Errorf("%v: %v after writing over the earlier ones", x, w)
			}
			l = append(l, slices.Clone(w))
			over(w)
		}
		if !intact(p, x) {
			t.Errorf("%v was changed", x)
		}
		kept := slices.Collect(Ways(p))
		for i := range kept {
			over(kept[i])
			for k := i + 1; k < len(kept); k++ {
				if !slices.Equal(kept[k], l[k]) {
					t.Errorf("%v: step %d shares with step %d", x, k, i)
				}
			}
		}
	}
}

// A change of the argument behind the call, ahead of the loop or within it, changes nothing that is yielded.
func TestWaysKeepNoArgument(t *testing.T) {
	for _, x := range paths() {
		p := roomy(x)
		ways := Ways(p)
		over(p)
		if l := slices.Collect(ways); !same(l, slices.Collect(Ways(x))) {
			t.Errorf("%v: %v", x, l)
		}
		p = roomy(x)
		n := 0
		for w := range Ways(p) {
			over(p)
			if !slices.Equal(w, x[:n]) {
				t.Errorf("%v: %v", x, w)
			}
			n++
		}
	}
}

// P8.3

// written returns what Put writes.
func written(p []int) []byte {
	var w tape.Pen
	Put(&w, p)
	return w.Bytes()
}

func TestPut(t *testing.T) {
	for _, x := range []struct {
		p    []int
		want string
	}{
		{nil, "\x00"},
		{[]int{}, "\x00"},
		{[]int{0}, "\x01\x00"},
		{[]int{1, 2}, "\x02\x01\x02"},
		{[]int{127, 128, 300}, "\x03\x7f\x80\x01\xac\x02"},
		{[]int{1 << 20}, "\x01\x80\x80\x40"},
		{[]int{6, 5, 4, 3, 2, 1}, "\x06\x06\x05\x04\x03\x02\x01"},
		// Lists that are not paths.
		{[]int{1<<20 + 1}, "\x01\x81\x80\x40"},
		{[]int{1, 2, 3, 4, 5, 6, 7}, "\x07\x01\x02\x03\x04\x05\x06\x07"},
		{slices.Repeat([]int{1}, 200), "\xc8\x01" + strings.Repeat("\x01", 200)},
		{[]int{1<<62 - 1}, "\x01\xff\xff\xff\xff\xff\xff\xff\xff\x3f"},
		{[]int{1, -1, 2}, "\x03\x01\x02"},
		{[]int{1 << 62, 5, math.MinInt, math.MaxInt}, "\x04\x05"},
	} {
		if b := written(x.p); string(b) != x.want {
			t.Errorf("%v: %q, not %q", x.p, b, x.want)
		}
	}
}

func TestPutBehind(t *testing.T) {
	var w tape.Pen
	w.Number(300)
	Put(&w, []int{1, 3})
	Put(&w, nil)
	w.Text("hi")
	if b := w.Bytes(); string(b) != "\xac\x02\x02\x01\x03\x00\x02hi" {
		t.Errorf("%q", b)
	}
}

func TestNilPen(t *testing.T) {
	for _, p := range lists() {
		Put(nil, p)
	}
}

func TestGet(t *testing.T) {
	for _, x := range []struct {
		b    string
		want []int
		left int
	}{
		{"\x00", nil, 0},
		{"\x00\x01", nil, 1},
		{"\x01\x00", []int{0}, 0},
		{"\x02\x01\x02", []int{1, 2}, 0},
		{"\x02\x01\x02\x03", []int{1, 2}, 1},
		{"\x01\x80\x80\x40", []int{1 << 20}, 0},
		{"\x06\x06\x05\x04\x03\x02\x01", []int{6, 5, 4, 3, 2, 1}, 0},
		{"\x06\x00\x00\x00\x00\x00\x80\x80\x40\xff", []int{0, 0, 0, 0, 0, 1 << 20}, 1},
	} {
		tp := tape.New([]byte(x.b))
		p, e := Get(tp)
		if !slices.Equal(p, x.want) || e != api.OK || tp.Left() != x.left || tp.Err() != nil {
			t.Errorf("%q: %v %v, %d left, %v", x.b, p, e, tp.Left(), tp.Err())
		}
	}
}

// checkForm fails if p and e are not an empty path and ErrForm.
func checkForm(t *testing.T, what string, p []int, e api.Errno) {
	t.Helper()
	if len(p) != 0 || e != api.ErrForm {
		t.Errorf("%s: %v %v", what, p, e)
	}
}

func TestGetFaults(t *testing.T) {
	for _, x := range []struct {
		b      string
		number api.Errno // of the tape's fault
		left   int
	}{
		{"", api.ErrEnd, 0},
		{"\x80", api.ErrEnd, 1},
		{"\x07", api.ErrLong, 1},
		{"\x07\x01\x02\x03\x04\x05\x06\x07", api.ErrLong, 8},
		{"\xff\xff\xff\xff\xff\xff\xff\xff\x7f", api.ErrLong, 9},
		{"\x81\x00\x01", api.ErrForm, 3},
		{strings.Repeat("\xff", 10), api.ErrForm, 10},
		{"\x01", api.ErrEnd, 0},
		{"\x02\x01", api.ErrEnd, 0},
		{"\x02\x01\x80", api.ErrEnd, 1},
		{"\x06\x01\x02\x03\x04\x05", api.ErrEnd, 0},
		{"\x01\x81\x80\x40", api.ErrLong, 3},
		{"\x01\x80\x80\x80\x01", api.ErrLong, 4},
		{"\x02\x81\x80\x40\x01", api.ErrLong, 4},
		{"\x02\x01\x81\x80\x40", api.ErrLong, 3},
		{"\x06\x01\x02\x03\x04\x05\x81\x80\x40", api.ErrLong, 3},
		{"\x01\xff\xff\xff\xff\xff\xff\xff\xff\x7f", api.ErrLong, 9},
		{"\x01\x80\x00", api.ErrForm, 2},
		{"\x02\x01" + strings.Repeat("\x80", 10), api.ErrForm, 10},
	} {
		tp := tape.New([]byte(x.b))
		p, e := Get(tp)
		checkForm(t, strconv.Quote(x.b), p, e)
		if fault.Code(tp.Err()) != x.number || tp.Left() != x.left {
			t.Errorf("%q: %v, %d left, not %v, %d", x.b, tp.Err(), tp.Left(), x.number, x.left)
		}
	}
}

// What was put of lists that are not paths is not got: where a number was left out, there are too few.
func TestGetNotPaths(t *testing.T) {
	for _, p := range notPaths() {
		q, e := Get(tape.New(written(p)))
		checkForm(t, Text(p), q, e)
	}
}

func TestGetFromFaultyTape(t *testing.T) {
	tp := tape.New([]byte("\x05\x00"))
	tp.Number(4)
	p, e := Get(tp)
	checkForm(t, "a tape with a fault", p, e)
	if tp.Left() != 2 || fault.Code(tp.Err()) != api.ErrLong {
		t.Errorf("%d left, %v", tp.Left(), tp.Err())
	}
	p, e = Get(nil)
	checkForm(t, "a nil tape", p, e)
}

func TestGetTooShort(t *testing.T) {
	for _, p := range paths() {
		b := written(p)
		for n := range b {
			tp := tape.New(b[:n])
			q, e := Get(tp)
			checkForm(t, Text(p), q, e)
			if fault.Code(tp.Err()) != api.ErrEnd {
				t.Errorf("%v, %d bytes: %v", p, n, tp.Err())
			}
		}
	}
}

// What is got from any bytes is a path, and is put as those that were read.
func TestGetFromAnyBytes(t *testing.T) {
	r := rand.New(rand.NewSource(5))
	got := 0
	for range 50000 {
		b := append(written(randomPath(r)), byte(r.Intn(256)))
		for range r.Intn(4) {
			b[r.Intn(len(b))] = byte(r.Intn(256)) >> r.Intn(8)
		}
		tp := tape.New(b)
		p, e := Get(tp)
		if e != api.OK {
			checkForm(t, "any bytes", p, e)
			if tp.Err() == nil {
				t.Errorf("%q: no fault", b)
			}
			continue
		}
		got++
		if !Right(p) || !bytes.Equal(written(p), b[:len(b)-tp.Left()]) {
			t.Errorf("%q: %v", b, p)
		}
	}
	if got < 1000 || got > 49000 {
		t.Errorf("%d paths", got)
	}
}

// P8.4

func TestParseWhatText(t *testing.T) {
	for _, p := range paths() {
		checkParse(t, Text(p), p, true)
	}
	r := rand.New(rand.NewSource(6))
	for range 20000 {
		p := randomPath(r)
		checkParse(t, Text(p), p, true)
	}
}

func TestGetWhatWasPut(t *testing.T) {
	var w tape.Pen
	for _, p := range paths() {
		tp := tape.New(written(p))
		if q, e := Get(tp); !slices.Equal(q, p) || e != api.OK || tp.End() != nil {
			t.Errorf("%v: %v %v %v", p, q, e, tp.End())
		}
		w.Number(1 << 40)
		Put(&w, p)
	}
	w.Text("hi")
	tp := tape.New(w.Bytes())
	for _, p := range paths() {
		if tp.Number(1<<40) != 1<<40 {
			t.Errorf("another number is ahead of %v", p)
		}
		if q, e := Get(tp); !slices.Equal(q, p) || e != api.OK {
			t.Errorf("%v: %v %v", p, q, e)
		}
	}
	if tp.Text(2) != "hi" || tp.End() != nil {
		t.Errorf("%v", tp.End())
	}
}

func TestParentOfChild(t *testing.T) {
	for _, p := range paths() {
		for _, n := range []int{0, 1, 3, 10, 1<<20 - 1, 1 << 20} {
			child, ok := Child(p, n)
			if ok != (len(p) < 6) {
				t.Errorf("%v, %d: %v", p, n, ok)
			}
			if !ok {
				continue
			}
			checkParent(t, child, p, n)
			if !Right(child) || !Below(child, p) || Compare(p, child) != -1 {
				t.Errorf("%v, %d: %v", p, n, child)
			}
		}
	}
}

func TestChildOfParent(t *testing.T) {
	for _, p := range paths() {
		if parent, n, ok := Parent(p); ok {
			checkChild(t, parent, n, p)
		}
	}
}

func TestBelowComesAfter(t *testing.T) {
	l := lists()
	below := 0
	for _, p := range l {
		for _, top := range l {
			if !Below(p, top) {
				continue
			}
			below++
			if Compare(p, top) != 1 || Compare(top, p) != -1 || Below(top, p) {
				t.Errorf("%v is below %v", p, top)
			}
		}
	}
	if below < 100 {
		t.Errorf("%d pairs", below)
	}
}

// Rules of all layers

// roomy returns a copy of p with spare capacity, in which there are three more numbers.
func roomy(p []int) []int {
	return slices.Concat(p, []int{77, 78, 79})[:len(p)]
}

// intact reports whether a, which was roomy(p), still is, with its spare capacity.
func intact(a, p []int) bool {
	return slices.Equal(a[:len(p)+3], roomy(p)[:len(p)+3])
}

// over writes over a list and its spare capacity.
func over(p []int) {
	whole := p[:cap(p)]
	for i := range whole {
		whole[i] = 99
	}
}

// calls calls each function with these lists, and returns the lists that they return.
func calls(p, q []int) [][]int {
	Right(p)
	Text(p)
	Below(p, q)
	Compare(p, q)
	Put(new(tape.Pen), p)
	parent, _, _ := Parent(p)
	child, _ := Child(p, 5)
	other, _ := Child(p, 6)
	parsed, _ := Parse(Text(p))
	got, _ := Get(tape.New(written(p)))
	return append([][]int{parent, child, other, parsed, got}, slices.Collect(Ways(p))...)
}

func TestArgumentsStay(t *testing.T) {
	for _, x := range lists() {
		for _, y := range [][]int{nil, {1}, {1, 2, 3}, {-1}, x} {
			p, q := roomy(x), roomy(y)
			calls(p, q)
			calls(q, p)
			if !intact(p, x) || !intact(q, y) {
				t.Errorf("%v and %v were changed", x, y)
			}
		}
	}
}

// Results are new: writing over one, with its spare capacity, changes neither an argument nor another result.
func TestResultsAreNew(t *testing.T) {
	for _, x := range lists() {
		p := roomy(x)
		results, want := calls(p, p), calls(x, x)
		for i := range results {
			over(results[i])
			for k := i + 1; k < len(results); k++ {
				if !slices.Equal(results[k], want[k]) {
					t.Errorf("result %d of %v shares with result %d", k, x, i)
				}
			}
		}
		if !intact(p, x) {
			t.Errorf("a result shares with %v", x)
		}
	}
}

// A later change of the arguments changes no result.
func TestArgumentsAreNotKept(t *testing.T) {
	for _, x := range lists() {
		p := roomy(x)
		results, want := calls(p, p), calls(x, x)
		over(p)
		if !same(results, want) {
			t.Errorf("%v was kept: %v", x, results)
		}
	}
}

// Very long lists and texts end too.
func TestLong(t *testing.T) {
	const size = 1 << 20
	for _, n := range []int{0, 1, -1, math.MaxInt} {
		p := slices.Repeat([]int{n}, size)
		if Right(p) || Compare(p, p[1:]) != 1 || Compare(p, p) != 0 || len(Text(p)) < size {
			t.Errorf("%d numbers %d", size, n)
		}
		if !Below(p, p[1:]) || Below(p, p) || Below(p[1:], p) || !Below(p, nil) || Below(p, []int{5}) {
			t.Errorf("%d numbers %d: below", size, n)
		}
		checkNoChild(t, p, 1)
		if q, last, ok := Parent(p); len(q) != size-1 || last != n || !ok {
			t.Errorf("%d numbers %d: parent", size, n)
		}
		if l := upTo(p, 3); !same(l, [][]int{{}, {n}, {n, n}}) {
			t.Errorf("%v", l)
		}
		q, e := Get(tape.New(written(p)))
		checkForm(t, "long", q, e)
	}
	for _, part := range []string{"0", "1", "9", ".", "1.", ".1", "-", "1.2", "\xff"} {
		s := strings.Repeat(part, size)
		for _, x := range []string{s, "1." + s, s + ".1"} {
			checkParse(t, x, nil, false)
		}
	}
}
