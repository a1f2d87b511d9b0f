package cats

import (
	"math"
	"math/big"
	"math/rand"
	"regexp"
	"slices"
	"strconv"
	"strings"
	"testing"

	"regency/api"
)

// form is a category's form as the document defines it, but for how great its numbers may be.
var form = regexp.MustCompile(`\A(|(?:0|[1-9][0-9]*)(?:\.(?:0|[1-9][0-9]*)){0,5})/(0|[1-9][0-9]*)\z`)

// byText is what parsing s should return, found with numbers of any size.
func byText(s string) ([]int, int, bool) {
	m := form.FindStringSubmatch(s)
	if m == nil {
		return nil, 0, false
	}
	var path []int
	for _, part := range strings.Split(m[1], ".") {
		if m[1] == "" {
			break
		}
		n, ok := upTo(part, 1<<20)
		if !ok {
			return nil, 0, false
		}
		path = append(path, n)
	}
	n, ok := upTo(m[2], 1<<16-1)
	if !ok {
		return nil, 0, false
	}
	return path, n, true
}

// upTo returns the number of these digits, and whether it is at most most.
func upTo(digits string, most int64) (int, bool) {
	n, ok := new(big.Int).SetString(digits, 10)
	if !ok || n.Cmp(big.NewInt(most)) > 0 {
		return 0, false
	}
	return int(n.Int64()), true
}

// join returns the numbers of path, with points between them.
func join(path []int) string {
	var parts []string
	for _, n := range path {
		parts = append(parts, strconv.Itoa(n))
	}
	return strings.Join(parts, ".")
}

// check holds Right, Parse and Name of s against what parsing it should return.
func check(t *testing.T, s string, path []int, n int, ok bool) {
	t.Helper()
	if Right(s) != ok {
		t.Errorf("%.80q: right %v, not %v", s, !ok, ok)
	}
	p, m, is := Parse(s)
	if !slices.Equal(p, path) || m != n || is != ok {
		t.Errorf("%.80q: %v %d %v, not %v %d %v", s, p, m, is, path, n, ok)
	}
	if !ok {
		return
	}
	if name, is := Name(path, n); name != s || !is {
		t.Errorf("%v %d: %.80q %v, not %.80q", path, n, name, is, s)
	}
}

// checkNoName reports if path and n have a name.
func checkNoName(t *testing.T, path []int, n int) {
	t.Helper()
	if name, ok := Name(path, n); name != "" || ok {
		t.Errorf("%v %d: %q %v", path, n, name, ok)
	}
}

// wrongs returns strings that are not categories, for each reason that the document gives.
func wrongs() []string {
	return []string{
		"", "/", ".", "./", "/.", "..", "//", "/0/", "//0", "/0/0", "1/0/0", "1/0/", "/1/0", "1//0", "1/2/3",
		"0", "1", "1.2", "1.2.3.4.5.6", "65535", "1.", "1/", "1.2/", "./0", ".1/0", "1./0", "1..2/0", "1.2./0", ".1.2/0", "1.2.3.4.5.6./0", "..../0",
		"1.2.3.4.5.6.7/0", "0.0.0.0.0.0.0/0", "1.2.3.4.5.6.7.8/0", "1.2.3.4.5.6.1048577/0",
		"1048577/0", "1.1048577/0", "1.2.3.4.5.1048577/0", "1048577.1/0", "9999999/0", "10000000/0",
		"/65536", "1/65536", "1/65537", "1/99999", "1/100000", "1/1048576", "1.2.3.4.5.6/65536",
		"-1/0", "-0/0", "1/-1", "1/-0", "1.-1/0", "1.-0/0", "-1.1/0", "/-1", "/-0", "-/0", "1/-", "-1/-1", "-9223372036854775808/0", "1/-9223372036854775808",
		"+1/0", "+0/0", "1/+1", "1/+0", "1.+1/0", "+/0", "1/+", "/+0",
		"00/0", "01/0", "001/0", "1.01/0", "1.00/0", "1/00", "1/01", "/00", "/01", "/000", "0.00/0", "1/065535", "01048576/0", "1/0000000000000000000000001", "0000000000000000000000001/1",
		"a/0", "1/a", "1a/0", "a1/0", "1/1a", "1/a1", "a.1/0", "1.a/0", "x", "a/b", "0x1/0", "1/0x1", "0b1/0", "0o1/0", "1e2/0", "1/1e2", "1_0/0", "1/1_0", "1,2/0", "1.2\\0", "1:2/0",
		" ", " 1/0", "1 /0", "1/ 0", "1/0 ", "1. 2/0", "\t1/0", "1/0\n", "1/0\r\n", "\n1/0", "1\n/0", "1/0\x00", "\x001/0", "1\x00/0", "\x00", "\xff", "1/\xff", "\xff/0",
		"1\u0661/0", "\u0661/0", "1/\u0661", "\uff11/0", "1/\uff11", "1\u22c52/0", "1\u2215" + "0", "\u00b2/0",
		"9223372036854775807/0", "9223372036854775808/0", "18446744073709551616/0", "18446744073709551617/0", "1/9223372036854775807", "1/9223372036854775808", "1/18446744073709551616", "1/18446744073709551617", "1/4294967296", "4294967296/0", "4294967297/0",
		strings.Repeat("9", 1000) + "/0", "1/" + strings.Repeat("9", 1000), "1/1" + strings.Repeat("0", 100), "1" + strings.Repeat("0", 100) + "/0", "1/" + strings.Repeat("0", 1000), strings.Repeat("0", 1000) + "/0",
	}
}

// ordered returns categories in their order.
func ordered() []string {
	return []string{
		"/0", "/1", "/2", "/9", "/10", "/11", "/99", "/100", "/9999", "/10000", "/65534", "/65535",
		"0/0", "0/65535", "0.0/0", "0.0/65535", "0.0.0.0.0.0/0", "0.0.0.0.0.0/65535", "0.0.0.0.0.1/0", "0.1/0", "0.1048576/0",
		"1/0", "1/1", "1/2", "1/10", "1/65535", "1.0/0", "1.0.0/0", "1.0.1048576/0", "1.1/0", "1.2/0", "1.2.3/0", "1.2.3.4/0", "1.2.3.4.5/0", "1.2.3.4.5.6/0", "1.2.3.4.5.6/7", "1.2.3.4.5.7/0", "1.2.3.4.6/0", "1.2.3.10/0", "1.2.4/0", "1.2.10/0",
		"1.3/0", "1.3/2", "1.3/10", "1.3.0/0", "1.3.20/0", "1.20/0", "1.20.3/0", "1.100/0", "1.1048575/65535", "1.1048576/0", "1.1048576.0/0",
		"2/0", "2.1/0", "3/0", "9/0", "9.9/9", "10/0", "10.1/0", "11/0", "20/0", "99/0", "100/0", "1000000/0", "1048575/0", "1048576/0", "1048576/3", "1048576/65535", "1048576.0/0", "1048576.1048576/0", "1048576.1048576.1048576.1048576.1048576.1048576/65535",
	}
}

// others returns strings that are not categories, in their order, which is that of their bytes.
func others() []string {
	l := wrongs()
	slices.Sort(l)
	return slices.Compact(l)
}

// randomString returns up to 14 of the letters that categories consist of and of some that they do not.
func randomString(r *rand.Rand) string {
	const letters = "0011223456789...//-+ a"
	b := make([]byte, r.Intn(15))
	for i := range b {
		b[i] = letters[r.Intn(len(letters))]
	}
	return string(b)
}

// randomCat returns a category, its path and its number; small numbers, so that prefixes and equal paths occur, and great ones.
func randomCat(r *rand.Rand) (string, []int, int) {
	var path []int
	for range r.Intn(7) {
		path = append(path, r.Intn([]int{2, 3, 12, 200, 1<<20 + 1}[r.Intn(5)]))
	}
	n := r.Intn([]int{2, 12, 200, 1 << 16}[r.Intn(4)])
	return join(path) + "/" + strconv.Itoa(n), path, n
}

// samples returns categories and other strings in no order.
func samples(n int, seed int64) []string {
	r := rand.New(rand.NewSource(seed))
	l := slices.Concat(ordered(), wrongs())
	for range n {
		s, _, _ := randomCat(r)
		l = append(l, s, randomString(r))
	}
	r.Shuffle(len(l), func(i, j int) { l[i], l[j] = l[j], l[i] })
	return l
}

func TestLimits(t *testing.T) {
	if api.MostDepth != 6 || api.MostNumber != 1<<20 || api.MostCats != 1<<16 {
		t.Errorf("the tests are for other limits")
	}
}

func TestKnown(t *testing.T) {
	for _, x := range []struct {
		s    string
		path []int
		n    int
	}{
		{"/0", nil, 0},
		{"/7", []int{}, 7},
		{"/65535", nil, 65535},
		{"0/0", []int{0}, 0},
		{"1/0", []int{1}, 0},
		{"1/65534", []int{1}, 65534},
		{"1/65535", []int{1}, 65535},
		{"10/100", []int{10}, 100},
		{"1.3/0", []int{1, 3}, 0},
		{"1.3/10", []int{1, 3}, 10},
		{"1.20/0", []int{1, 20}, 0},
		{"0.0/0", []int{0, 0}, 0},
		{"1048575/0", []int{1<<20 - 1}, 0},
		{"1048576/3", []int{1 << 20}, 3},
		{"0.1048576/65535", []int{0, 1 << 20}, 65535},
		{"1.2.3.4.5/6", []int{1, 2, 3, 4, 5}, 6},
		{"1.2.3.4.5.6/7", []int{1, 2, 3, 4, 5, 6}, 7},
		{"0.0.0.0.0.0/0", []int{0, 0, 0, 0, 0, 0}, 0},
		{"6.5.4.3.2.1048576/1", []int{6, 5, 4, 3, 2, 1 << 20}, 1},
		{"1048576.1048576.1048576.1048576.1048576.1048576/65535", []int{1 << 20, 1 << 20, 1 << 20, 1 << 20, 1 << 20, 1 << 20}, 65535},
	} {
		check(t, x.s, x.path, x.n, true)
	}
}

func TestWrong(t *testing.T) {
	for _, s := range wrongs() {
		check(t, s, nil, 0, false)
	}
}

// All strings of up to six letters, of those that matter.
func TestAllShort(t *testing.T) {
	l := []string{""}
	for range 7 {
		var longer []string
		for _, s := range l {
			path, n, ok := byText(s)
			check(t, s, path, n, ok)
			for _, c := range "01./-" {
				longer = append(longer, s+string(c))
			}
		}
		l = longer
	}
}

// Each byte in place of each letter of a category, and ahead of it.
func TestAnyByte(t *testing.T) {
	const cat = "10.3/25"
	for i := range len(cat) + 1 {
		for c := range 256 {
			start := cat[:i] + string([]byte{byte(c)})
			l := []string{start + cat[i:]}
			if i < len(cat) {
				l = append(l, start+cat[i+1:])
			}
			for _, s := range l {
				path, n, ok := byText(s)
				check(t, s, path, n, ok)
			}
		}
	}
}

func TestRandomStrings(t *testing.T) {
	r := rand.New(rand.NewSource(1))
	for range 100000 {
		s := randomString(r)
		path, n, ok := byText(s)
		check(t, s, path, n, ok)
	}
}

func TestRandomCats(t *testing.T) {
	r := rand.New(rand.NewSource(2))
	for range 20000 {
		s, path, n := randomCat(r)
		check(t, s, path, n, true)
	}
}

func TestEveryLastNumber(t *testing.T) {
	for _, path := range [][]int{nil, {1}, {1, 2, 3, 4, 5, 6}} {
		for n := -2; n < 1<<16+2; n++ {
			s := join(path) + "/" + strconv.Itoa(n)
			if n < 0 || n >= 1<<16 {
				check(t, s, nil, 0, false)
				checkNoName(t, path, n)
				continue
			}
			check(t, s, path, n, true)
		}
	}
}

// The least and the greatest number of a path, at each of its places.
func TestNumbersOfPath(t *testing.T) {
	for length := 1; length <= 6; length++ {
		for place := range length {
			for _, n := range []int{-1, 0, 1, 9, 10, 1<<20 - 1, 1 << 20, 1<<20 + 1} {
				path := []int{3, 3, 3, 3, 3, 3}[:length]
				path[place] = n
				s := join(path) + "/5"
				if n < 0 || n > 1<<20 {
					check(t, s, nil, 0, false)
					checkNoName(t, path, 5)
					continue
				}
				check(t, s, path, 5, true)
			}
		}
	}
}

func TestLengthsOfPath(t *testing.T) {
	for length := range 20 {
		path := make([]int, length)
		s := join(path) + "/1"
		if length > 6 {
			check(t, s, nil, 0, false)
			checkNoName(t, path, 1)
			continue
		}
		check(t, s, path, 1, true)
	}
}

func TestNoName(t *testing.T) {
	for _, n := range []int{-1, math.MinInt, 1 << 16, 1<<16 + 1, 1 << 32, 1<<32 + 1, math.MaxInt} {
		checkNoName(t, nil, n)
		checkNoName(t, []int{1, 2}, n)
	}
	for _, n := range []int{-1, math.MinInt, 1<<20 + 1, 1 << 32, 1<<32 + 1, math.MaxInt} {
		checkNoName(t, []int{n}, 0)
		checkNoName(t, []int{1, n}, 0)
		checkNoName(t, []int{n, 1}, 0)
		checkNoName(t, []int{1, 2, 3, 4, 5, n}, 0)
	}
	checkNoName(t, []int{1, 2, 3, 4, 5, 6, 7}, 0)
	checkNoName(t, make([]int, 1<<16), 0)
}

// Two different paths and numbers have different names.
func TestNamesDiffer(t *testing.T) {
	seen := map[string]string{}
	r := rand.New(rand.NewSource(3))
	for range 20000 {
		_, path, n := randomCat(r)
		name, _ := Name(path, n)
		key := join(path) + " " + strconv.Itoa(n)
		if was, ok := seen[name]; ok && was != key {
			t.Fatalf("%q: %s and %s", name, was, key)
		}
		seen[name] = key
	}
}

// Very long strings end too.
func TestLong(t *testing.T) {
	const size = 1 << 20
	for _, part := range []string{"0", "1", "9", ".", "/", "1.", "1/", ".1", "/1", "-", "\xff", "1.2/3,"} {
		s := strings.Repeat(part, size)
		for _, x := range []string{s, s + "/0", "1/" + s, "1." + s + "/0"} {
			check(t, x, nil, 0, false)
			if Compare(x, "1/0") != 1 || Compare("1/0", x) != -1 || Compare(x, x+"x") != -1 {
				t.Errorf("%.20q: order", x)
			}
		}
	}
}

func TestNameKeepsPath(t *testing.T) {
	path := []int{1, 2, 3, 4, 5, 6, 7}
	for n := range len(path) + 1 {
		Name(path[:n], 9)
	}
	if !slices.Equal(path, []int{1, 2, 3, 4, 5, 6, 7}) {
		t.Errorf("%v", path)
	}
}

func TestParseIsNew(t *testing.T) {
	const cat = "1.2.3/4"
	p, _, _ := Parse(cat)
	p = append(p[:cap(p)], 9)
	for i := range p {
		p[i] = 8
	}
	check(t, cat, []int{1, 2, 3}, 4, true)
	q, _, _ := Parse(cat)
	clear(p[:cap(p)])
	if !slices.Equal(q, []int{1, 2, 3}) {
		t.Errorf("%v", q)
	}
}

// checkOrder holds Compare of all strings of l, which are in order, against their places.
func checkOrder(t *testing.T, l []string) {
	t.Helper()
	for i, a := range l {
		for j, b := range l {
			want := 0
			if i < j {
				want = -1
			} else if i > j {
				want = 1
			}
			if v := Compare(a, b); v != want {
				t.Errorf("%.80q, %.80q: %d, not %d", a, b, v, want)
			}
		}
	}
}

func TestCompareExamples(t *testing.T) {
	checkOrder(t, []string{"1.3/0", "1.3/10", "1.20/0"})
}

func TestCompareKnown(t *testing.T) {
	checkOrder(t, ordered())
}

func TestCompareOthers(t *testing.T) {
	checkOrder(t, others())
	checkOrder(t, slices.Concat(ordered(), others()))
	checkOrder(t, []string{"/0", "1/0", "2/0", "10/0", "", "!", "1", "10", "10/00", "2", "A", "B", "a", "a/0", "ab", "b", "\u00e4", "\xff", "\xff\x00"})
}

// before reports whether a is before b, as the document defines it.
func before(a, b string) bool {
	p, n, isA := byText(a)
	q, m, isB := byText(b)
	if !isA || !isB {
		return isA || !isB && a < b
	}
	for i := range min(len(p), len(q)) {
		if p[i] != q[i] {
			return p[i] < q[i]
		}
	}
	if len(p) != len(q) {
		return len(p) < len(q)
	}
	return n < m
}

func TestCompareRandom(t *testing.T) {
	l := samples(300, 4)
	for _, a := range l {
		for _, b := range l {
			want := 0
			if before(a, b) {
				want = -1
			} else if before(b, a) {
				want = 1
			}
			if (want == 0) != (a == b) {
				t.Fatalf("%q, %q: the test's own order", a, b)
			}
			if v := Compare(a, b); v != want {
				t.Fatalf("%q, %q: %d, not %d", a, b, v, want)
			}
		}
	}
}

// Any three strings: the order is total.
func TestOrderIsTotal(t *testing.T) {
	l := slices.Concat(samples(40, 5), []string{"1/0", "1/0", "x", "x", "", ""})
	c := make([][]int, len(l))
	for i, a := range l {
		for _, b := range l {
			c[i] = append(c[i], Compare(a, b))
		}
		if c[i][i] != 0 {
			t.Errorf("%q is not equal to itself", a)
		}
	}
	for i := range l {
		for j := range l {
			if c[i][j] != -c[j][i] || (c[i][j] == 0) != (l[i] == l[j]) {
				t.Errorf("%q, %q: %d and %d", l[i], l[j], c[i][j], c[j][i])
			}
			for k := range l {
				if c[i][j] <= 0 && c[j][k] <= 0 && c[i][k] > 0 {
					t.Errorf("%q, %q, %q", l[i], l[j], l[k])
				}
			}
		}
	}
}

func TestSortKnown(t *testing.T) {
	for _, x := range []struct{ l, want []string }{
		{nil, nil},
		{[]string{}, nil},
		{[]string{""}, nil},
		{[]string{"x", "1", "01/0", "1/65536", ""}, nil},
		{[]string{"1/0"}, []string{"1/0"}},
		{[]string{"1/0", "1/0", "1/0"}, []string{"1/0"}},
		{[]string{"x", "1/0", "x"}, []string{"1/0"}},
		{[]string{"1/00", "1/0", "+1/0", "01/0"}, []string{"1/0"}},
		{[]string{"1.20/0", "1.3/10", "1.3/0"}, []string{"1.3/0", "1.3/10", "1.20/0"}},
		{[]string{"1/1", "1/0", "1/1", "y", "1/0", "/0", "y"}, []string{"/0", "1/0", "1/1"}},
		{[]string{"2/0", "1.3/10", "1.3/2", "/9", "1/0", "x", "1.20/0", "2/0", "10/0"}, []string{"/9", "1/0", "1.3/2", "1.3/10", "1.20/0", "2/0", "10/0"}},
	} {
		if l := Sort(x.l); !slices.Equal(l, x.want) {
			t.Errorf("%q: %q, not %q", x.l, l, x.want)
		}
	}
}

func TestSortAll(t *testing.T) {
	r := rand.New(rand.NewSource(6))
	want := ordered()
	for range 50 {
		l := slices.Concat(want, others(), want)
		r.Shuffle(len(l), func(i, j int) { l[i], l[j] = l[j], l[i] })
		if got := Sort(l); !slices.Equal(got, want) {
			t.Fatalf("%q", got)
		}
	}
	if got := Sort(want); !slices.Equal(got, want) {
		t.Errorf("sorted ones: %q", got)
	}
}

// Random lists: what Sort returns is rising, and has just the categories of the list.
func TestSortRandom(t *testing.T) {
	for seed := range int64(20) {
		l := samples(200, seed)
		got := Sort(l)
		for i := range len(got) - 1 {
			if !before(got[i], got[i+1]) {
				t.Fatalf("%q, %q", got[i], got[i+1])
			}
		}
		for _, s := range l {
			if _, _, ok := byText(s); ok != slices.Contains(got, s) {
				t.Fatalf("%q: %v", s, ok)
			}
		}
		for _, s := range got {
			if !slices.Contains(l, s) {
				t.Fatalf("%q came", s)
			}
		}
	}
}

func TestSortKeepsArgument(t *testing.T) {
	l := []string{"2/0", "x", "1/0", "2/0", "0/0", "y"}
	was := slices.Clone(l)
	for n := range len(l) + 1 {
		got := Sort(l[:n])
		if !slices.Equal(l, was) {
			t.Fatalf("%d: %q", n, l)
		}
		got = got[:cap(got)]
		for i := range got {
			got[i] = "z"
		}
		if !slices.Equal(l, was) {
			t.Fatalf("%d: the result is the argument's memory: %q", n, l)
		}
	}
	for _, sorted := range [][]string{{"1/0"}, {"1/0", "2/0"}, {"1/0", "2/0", "x"}} {
		kept := slices.Clone(sorted)
		got := Sort(sorted)
		got[0] = "z"
		if !slices.Equal(sorted, kept) {
			t.Errorf("the result is the argument's memory: %q", sorted)
		}
	}
}

func TestSortIsNew(t *testing.T) {
	l := []string{"2/0", "1/0"}
	a := Sort(l)
	b := Sort(l)
	for i := range a {
		a[i] = "z"
	}
	l[0], l[1] = "8/0", "9/0"
	if !slices.Equal(b, []string{"1/0", "2/0"}) {
		t.Errorf("%q", b)
	}
	if c := Sort(l); !slices.Equal(c, []string{"8/0", "9/0"}) {
		t.Errorf("%q", c)
	}
}

// What a call returns depends on its arguments alone, whatever was called before.
func TestNothingIsKept(t *testing.T) {
	l := samples(20, 7)
	first := Sort(l)
	for _, s := range l {
		path, n, ok := byText(s)
		check(t, s, path, n, ok)
		check(t, s, path, n, ok)
		Compare(s, l[0])
	}
	if !slices.Equal(Sort(l), first) {
		t.Errorf("another result")
	}
}
