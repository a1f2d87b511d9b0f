package label

import (
	"bytes"
	"math"
	"math/rand"
	"slices"
	"strconv"
	"strings"
	"testing"

	"regency/api"
	"regency/cats"
	"regency/fault"
	"regency/tape"
)

// universe returns categories in their order, so that the tests need no order of their own. As strings they are ordered otherwise.
func universe() []string {
	return []string{
		"/0", "/2", "/10", "0.1/0", "1/0", "1/9", "1/10", "1.3/0", "1.20/0", "2/0", "10/0",
		"1048576.1048576.1048576.1048576.1048576.1048576/65535",
	}
}

// notCats returns strings that are not categories.
func notCats() []string {
	return []string{"", "x", "1", "/", "1/", "01/0", "1/00", "1/65536", "1048577/0", "1.2.3.4.5.6.7/0", "-1/0", "1/-0", "1/0 ", " 1/0", "1/0=2", "1/0,2/0", "\xff", "-", strings.Repeat("1", 100)}
}

// lb returns the label of these entries, such as "1/0=3,2/0=0", in this order, whatever they are.
func lb(text string) api.Label {
	if text == "" {
		return nil
	}
	var l api.Label
	for _, part := range strings.Split(text, ",") {
		cat, level, _ := strings.Cut(part, "=")
		n, err := strconv.Atoi(level)
		if err != nil {
			panic(text)
		}
		l = append(l, api.Entry{Cat: cat, Level: n})
	}
	return l
}

// many returns n entries of a level, for ascending categories.
func many(n, level int) api.Label {
	var l api.Label
	for i := range n {
		l = append(l, api.Entry{Cat: "5/" + strconv.Itoa(i), Level: level})
	}
	return l
}

// row has a level for each category of the universe.
type row []int

// label returns the label of a row, which may have too many entries.
func (r row) label() api.Label {
	var l api.Label
	for i, level := range r {
		if level != 1 {
			l = append(l, api.Entry{Cat: universe()[i], Level: level})
		}
	}
	return l
}

// over returns the row whose levels are what pick returns for those of r and s.
func (r row) over(s row, pick func(x, y int) int) row {
	var levels row
	for i := range r {
		levels = append(levels, pick(r[i], s[i]))
	}
	return levels
}

// flows reports whether no level of r is greater than that of s.
func (r row) flows(s row) bool {
	for i := range r {
		if r[i] > s[i] {
			return false
		}
	}
	return true
}

func greater(x, y int) int { return max(x, y) }
func lesser(x, y int) int  { return min(x, y) }

// rows returns all rows of the first n categories.
func rows(n int) []row {
	l := []row{nil}
	for range n {
		var longer []row
		for _, r := range l {
			for level := range 4 {
				longer = append(longer, append(slices.Clone(r), level))
			}
		}
		l = longer
	}
	return l
}

// randomRow returns a row of the whole universe with up to most levels that are not the usual one.
func randomRow(r *rand.Rand, most int) row {
	levels := slices.Repeat(row{1}, len(universe()))
	for _, i := range r.Perm(len(levels))[:r.Intn(most+1)] {
		levels[i] = []int{0, 2, 3}[r.Intn(3)]
	}
	return levels
}

// wrongLabels returns labels that are not valid, for each reason.
func wrongLabels() []api.Label {
	l := []api.Label{
		many(9, 2), many(9, 0), many(100, 3),
		lb("2/0=2,1/0=2"), lb("1/10=2,1/9=2"), lb("10/0=3,2/0=3"), lb("1.20/0=0,1.3/0=0"), lb("1.3/0=2,1/0=2"), lb("1/0=2,3/0=2,2/0=2"), lb("2/0=2,1/0=2,3/0=2"),
		lb("1/0=2,1/0=2"), lb("1/0=2,1/0=3"), lb("1/0=3,1/0=0"), lb("1/0=2,2/0=2,2/0=2"), lb("1/0=2,2/0=2,1/0=2"),
		lb("1/0=-1"), lb("1/0=1"), lb("1/0=4"), lb("1/0=5"), lb("1/0=2,2/0=1"), lb("1/0=1,2/0=2"), lb("1/0=2,2/0=4,3/0=2"), lb("1/0=2,2/0=-1"),
		{{Cat: "1/0", Level: math.MaxInt}}, {{Cat: "1/0", Level: math.MinInt}}, {{Cat: "1/0", Level: 1 << 32}}, {{Cat: "1/0", Level: 256 + 2}},
		{{}}, {{}, {}},
	}
	for _, s := range notCats() {
		l = append(l, api.Label{{Cat: s, Level: 2}}, api.Label{{Cat: "1/0", Level: 2}, {Cat: s, Level: 2}}, api.Label{{Cat: s, Level: 0}, {Cat: "2/0", Level: 3}})
	}
	return l
}

// rightLabels returns labels that are valid.
func rightLabels() []api.Label {
	l := []api.Label{nil, {}, lb("1/0=0"), lb("1/0=2"), lb("1/0=3"), lb("/0=3"), lb("2/0=0,10/0=2"), lb("1/0=0,1/9=2,1/10=3,1.3/0=0,1.20/0=2"), many(7, 3), many(8, 2), many(8, 0)}
	r := rand.New(rand.NewSource(1))
	for range 50 {
		l = append(l, randomRow(r, 8).label())
	}
	return l
}

// check fails if l and e are not the label want, and OK.
func check(t *testing.T, what string, l api.Label, e api.Errno, want api.Label) {
	t.Helper()
	if e != api.OK || !slices.Equal(l, want) {
		t.Errorf("%s: %v %v, not %v", what, l, e, want)
	}
}

// checkError fails if l and e are not nothing, and want.
func checkError(t *testing.T, what string, l api.Label, e, want api.Errno) {
	t.Helper()
	if e != want || len(l) != 0 {
		t.Errorf("%s: %v %v, not %v", what, l, e, want)
	}
}

func TestLimits(t *testing.T) {
	if api.MostEntries != 8 || api.Trusted != 0 || api.Usual != 1 || api.Tainted != 2 || api.Secret != 3 {
		t.Errorf("the tests are for other limits")
	}
	if !slices.IsSortedFunc(universe(), cats.Compare) || slices.IsSorted(universe()) {
		t.Errorf("the universe is not as it should be")
	}
}

func TestRight(t *testing.T) {
	for _, l := range rightLabels() {
		if !Right(l) {
			t.Errorf("%v is not right", l)
		}
	}
	for _, l := range wrongLabels() {
		if Right(l) {
			t.Errorf("%v is right", l)
		}
	}
}

func TestRightLevels(t *testing.T) {
	for level := -5; level < 10; level++ {
		want := level == 0 || level == 2 || level == 3
		for i := range 8 {
			l := many(8, 2)
			l[i].Level = level
			if Right(l) != want || Right(l[:i+1]) != want || Right(l[i:]) != want {
				t.Errorf("level %d at %d: not %v", level, i, want)
			}
		}
	}
}

func TestRightCounts(t *testing.T) {
	for n := range 40 {
		if Right(many(n, 3)) != (n <= 8) {
			t.Errorf("%d entries", n)
		}
	}
	if Right(many(1<<16, 3)) {
		t.Errorf("very many entries")
	}
}

// Each two categories, and each one beside a string that is none.
func TestRightOrder(t *testing.T) {
	all := universe()
	for i, a := range all {
		for j, b := range all {
			if Right(api.Label{{Cat: a, Level: 2}, {Cat: b, Level: 3}}) != (i < j) {
				t.Errorf("%q %q", a, b)
			}
		}
		for _, b := range notCats() {
			if Right(api.Label{{Cat: a, Level: 2}, {Cat: b, Level: 3}}) || Right(api.Label{{Cat: b, Level: 2}, {Cat: a, Level: 3}}) {
				t.Errorf("%q %q", a, b)
			}
		}
	}
}

func TestLevel(t *testing.T) {
	r := rand.New(rand.NewSource(2))
	for range 2000 {
		levels := randomRow(r, 8)
		for i, cat := range universe() {
			if n := Level(levels.label(), cat); n != levels[i] {
				t.Errorf("%v: %q has %d", levels, cat, n)
			}
		}
	}
	for _, l := range rightLabels() {
		for _, cat := range append(notCats(), "77/7", "1/00", "1/1") {
			if n := Level(l, cat); n != 1 {
				t.Errorf("%v: %q has %d", l, cat, n)
			}
		}
	}
}

func TestLevelOfWrongLabel(t *testing.T) {
	for _, x := range []struct {
		l    string
		cat  string
		want int
	}{
		{"1/0=2,1/0=3", "1/0", 2},
		{"1/0=3,1/0=2", "1/0", 3},
		{"1/0=1,1/0=2", "1/0", 1},
		{"1/0=0,2/0=2,1/0=3", "1/0", 0},
		{"3/0=3,2/0=2,1/0=0", "1/0", 0},
		{"3/0=3,2/0=2,1/0=0", "2/0", 2},
		{"3/0=3,2/0=2,1/0=0", "3/0", 3},
		{"3/0=3,2/0=2,1/0=0", "4/0", 1},
		{"1/0=1", "1/0", 1},
		{"1/0=-1", "1/0", -1},
		{"1/0=4", "1/0", 4},
		{"1/0=4", "2/0", 1},
		{"x=3,1/0=2", "1/0", 2},
		{"x=3,1/0=2", "2/0", 1},
		{"x=3,1/0=2", "y", 1},
	} {
		if n := Level(lb(x.l), x.cat); n != x.want {
			t.Errorf("%s: %q has %d, not %d", x.l, x.cat, n, x.want)
		}
	}
	if n := Level(many(100, 3), "5/99"); n != 3 {
		t.Errorf("the last of a hundred has %d", n)
	}
	if n := Level(many(100, 3), "5/100"); n != 1 {
		t.Errorf("one that is not there has %d", n)
	}
}

func TestMake(t *testing.T) {
	for _, x := range []struct{ l, want string }{
		{"", ""},
		{"1/0=0", "1/0=0"},
		{"1/0=1", ""},
		{"1/0=2", "1/0=2"},
		{"1/0=3", "1/0=3"},
		{"2/0=3,1/0=2", "1/0=2,2/0=3"},
		{"10/0=3,2/0=2,1.3/0=0,1/0=2", "1/0=2,1.3/0=0,2/0=2,10/0=3"},
		{"1/10=2,1/9=3", "1/9=3,1/10=2"},
		{"2/0=3,1/0=2,1/5=1,2/0=0", "1/0=2,2/0=0"},
		{"1/0=2,1/0=3", "1/0=3"},
		{"1/0=3,1/0=2", "1/0=2"},
		{"1/0=3,1/0=0", "1/0=0"},
		{"1/0=2,1/0=2", "1/0=2"},
		{"1/0=3,1/0=1", ""},
		{"1/0=1,1/0=3", "1/0=3"},
		{"1/0=3,1/0=1,1/0=2", "1/0=2"},
		{"1/0=1,1/0=2,1/0=1", ""},
		{"1/0=2,2/0=3,1/0=0,2/0=2,1/0=3", "1/0=3,2/0=2"},
		{"1/0=1,2/0=1,3/0=1,4/0=1,5/0=1,6/0=1,7/0=1,8/0=1,9/0=1,10/0=2", "10/0=2"},
	} {
		l, e := Make(lb(x.l))
		check(t, x.l, l, e, lb(x.want))
	}
	l, e := Make([]api.Entry{})
	check(t, "no entries", l, e, nil)
}

func TestMakeErrors(t *testing.T) {
	for _, x := range []struct {
		l string
		e api.Errno
	}{
		{"x=2", api.ErrCat},
		{"x=1", api.ErrCat},
		{"=0", api.ErrCat},
		{"01/0=2", api.ErrCat},
		{"x=9", api.ErrCat},
		{"x=-1", api.ErrCat},
		{"1/0=-1", api.ErrLabel},
		{"1/0=4", api.ErrLabel},
		{"1/0=1000", api.ErrLabel},
		{"1/0=4,x=2", api.ErrLabel},
		{"x=2,1/0=4", api.ErrCat},
		{"1/0=2,x=2,1/0=4", api.ErrCat},
		{"1/0=2,2/0=-1,x=2", api.ErrLabel},
		{"9/0=2,1/0=4,x=2", api.ErrLabel}, // as they are given, not as they are ordered
		{"1/0=2,x=2,0/0=4", api.ErrCat},
		{"1/0=4,1/0=2", api.ErrLabel}, // also where a later one counts
		{"1/0=2,1/0=4", api.ErrLabel},
		{"1/0=4,1/0=1", api.ErrLabel},
		{"x=2,x=1", api.ErrCat},
		{"1/0=1,1/1=1,x=1", api.ErrCat},
	} {
		l, e := Make(lb(x.l))
		checkError(t, x.l, l, e, x.e)
	}
	for _, level := range []int{math.MinInt, math.MaxInt, 1 << 32, 1<<32 + 2, 256, 258} {
		l, e := Make([]api.Entry{{Cat: "1/0", Level: level}})
		checkError(t, strconv.Itoa(level), l, e, api.ErrLabel)
	}
	for _, cat := range notCats() {
		l, e := Make([]api.Entry{{Cat: "1/0", Level: 2}, {Cat: cat, Level: 2}})
		checkError(t, cat, l, e, api.ErrCat)
	}
}

// Too many entries are the last error, and only those that remain count.
func TestMakeLong(t *testing.T) {
	nine := many(9, 2)
	l, e := Make(nine[:8])
	check(t, "eight", l, e, nine[:8])
	l, e = Make(nine)
	checkError(t, "nine", l, e, api.ErrLong)
	l, e = Make(many(1000, 0))
	checkError(t, "a thousand", l, e, api.ErrLong)
	l, e = Make(append(many(9, 2), lb("x=2")...))
	checkError(t, "nine and a string", l, e, api.ErrCat)
	l, e = Make(append(many(9, 2), lb("1/0=4")...))
	checkError(t, "nine and a level", l, e, api.ErrLabel)
	l, e = Make(append(many(9, 2), lb("5/3=-1")...))
	checkError(t, "nine and a level again", l, e, api.ErrLabel)
	l, e = Make(append(many(9, 2), lb("5/8=1")...))
	check(t, "nine, one of them usual", l, e, nine[:8])
	l, e = Make(append(many(9, 2), many(9, 1)...))
	check(t, "nine, all usual", l, e, nil)
	l, e = Make(append(many(9, 1), many(8, 2)...))
	check(t, "nine usual ones, eight not", l, e, nine[:8])
	l, e = Make(append(many(9, 1), many(9, 2)...))
	checkError(t, "nine usual ones that are not", l, e, api.ErrLong)
	l, e = Make(append(many(8, 3), many(8, 2)...))
	check(t, "eight twice", l, e, nine[:8])
	reversed := many(8, 2)
	slices.Reverse(reversed)
	l, e = Make(reversed)
	check(t, "eight reversed", l, e, nine[:8])
}

// Entries for any categories in any order, against the last level of each.
func TestMakeRandom(t *testing.T) {
	r := rand.New(rand.NewSource(3))
	long := 0
	for range 20000 {
		levels := randomRow(r, 0)
		var entries []api.Entry
		for range r.Intn(30) {
			i, level := r.Intn(len(levels)), r.Intn(4)
			levels[i] = level
			entries = append(entries, api.Entry{Cat: universe()[i], Level: level})
		}
		l, e := Make(entries)
		if want := levels.label(); len(want) > 8 {
			checkError(t, Text(entries), l, e, api.ErrLong)
			long++
		} else {
			check(t, Text(entries), l, e, want)
		}
		if !Right(l) {
			t.Fatalf("%v is not right", l)
		}
	}
	if long < 1000 || long > 19000 {
		t.Errorf("%d were too long", long)
	}
}

// A label is made of its own entries, and made again it stays the same.
func TestMakeOfLabels(t *testing.T) {
	for _, l := range rightLabels() {
		m, e := Make(l)
		check(t, Text(l), m, e, l)
	}
}

// Very many entries end too.
func TestMakeOfMany(t *testing.T) {
	const size = 1 << 17
	var entries []api.Entry
	for i := range size {
		entries = append(entries, api.Entry{Cat: strconv.Itoa(i) + "/0", Level: 2})
	}
	l, e := Make(entries)
	checkError(t, "many", l, e, api.ErrLong)
	for i := range entries {
		entries[i].Cat, entries[i].Level = strconv.Itoa(i%9)+"/0", i%9/8*2+1
	}
	l, e = Make(append(entries, api.Entry{Cat: "8/0", Level: 2}))
	check(t, "many for nine categories", l, e, lb("8/0=2"))
}

func TestSame(t *testing.T) {
	for _, x := range []struct {
		a, b string
		want bool
	}{
		{"", "", true},
		{"1/0=2", "1/0=2", true},
		{"1/0=2", "1/0=3", false},
		{"1/0=2", "2/0=2", false},
		{"1/0=2", "", false},
		{"", "1/0=2", false},
		{"1/0=2,2/0=3", "1/0=2,2/0=3", true},
		{"1/0=2,2/0=3", "1/0=2", false},
		{"1/0=2", "1/0=2,2/0=3", false},
		{"1/0=2,2/0=3", "1/0=2,2/0=0", false},
		{"1/0=2,2/0=3", "1/0=3,2/0=3", false},
		// Entries count, also those of labels that are not valid.
		{"2/0=3,1/0=2", "1/0=2,2/0=3", false},
		{"2/0=3,1/0=2", "2/0=3,1/0=2", true},
		{"1/0=1", "", false},
		{"", "1/0=1", false},
		{"1/0=1", "1/0=1", true},
		{"x=9", "x=9", true},
		{"x=9", "x=8", false},
		{"x=9", "y=9", false},
		{"1/0=2,1/0=2", "1/0=2", false},
	} {
		if Same(lb(x.a), lb(x.b)) != x.want {
			t.Errorf("%s and %s: not %v", x.a, x.b, x.want)
		}
	}
	if !Same(nil, api.Label{}) || !Same(api.Label{}, nil) || !Same(nil, nil) {
		t.Errorf("nil and empty labels differ")
	}
	if !Same(many(9, 2), many(9, 2)) || Same(many(9, 2), many(8, 2)) || Same(many(8, 2), many(9, 2)) {
		t.Errorf("nine entries")
	}
}

func TestSameLabels(t *testing.T) {
	all := slices.Concat(rightLabels(), wrongLabels())
	for _, a := range all {
		for _, b := range all {
			if Same(a, b) != (len(a) == len(b) && Text(a) == Text(b)) {
				t.Errorf("%v %v: %v", a, b, Same(a, b))
			}
		}
	}
}

func TestFlows(t *testing.T) {
	for _, x := range []struct {
		a, b string
		want bool
	}{
		{"", "", true},
		{"", "1/0=2", true},
		{"", "1/0=3", true},
		{"", "1/0=0", false},
		{"1/0=0", "", true},
		{"1/0=2", "", false},
		{"1/0=3", "", false},
		{"1/0=3", "1/0=3", true},
		{"1/0=2", "1/0=3", true},
		{"1/0=3", "1/0=2", false},
		{"1/0=0", "1/0=2", true},
		{"1/0=2", "1/0=0", false},
		{"1/0=2", "2/0=2", false},
		{"1/0=0", "2/0=2", true},
		{"1/0=0", "2/0=0", false},
		{"1/0=2,2/0=3", "1/0=2,2/0=2", false},
		{"1/0=2,2/0=2", "1/0=2,2/0=3", true},
		{"1/0=3,2/0=2", "1/0=2,2/0=3", false},
		{"1/0=0,3/0=2", "2/0=3,3/0=2", true},
		{"1/0=2", "1/0=2,2/0=3", true},
		{"1/0=2", "1/0=2,2/0=0", false},
		{"1/0=2,2/0=0", "1/0=2", true},
	} {
		if Flows(lb(x.a), lb(x.b)) != x.want {
			t.Errorf("%s to %s: not %v", x.a, x.b, x.want)
		}
	}
	if !Flows(many(8, 2), many(8, 3)) || Flows(many(8, 3), many(8, 2)) || !Flows(many(8, 0), nil) || !Flows(nil, many(8, 2)) {
		t.Errorf("eight entries")
	}
	if !Flows(nil, api.Label{}) || !Flows(api.Label{}, nil) {
		t.Errorf("nil and empty labels differ")
	}
}

// A label that is not valid flows nowhere and nothing flows to it, also where its levels would allow that.
func TestFlowsWrongLabels(t *testing.T) {
	for _, l := range wrongLabels() {
		for _, right := range rightLabels() {
			if Flows(l, right) || Flows(right, l) {
				t.Errorf("%v flows to or from %v", l, right)
			}
		}
		if Flows(l, l) {
			t.Errorf("%v flows to itself", l)
		}
	}
	if Flows(lb("1/0=1"), nil) || Flows(nil, lb("1/0=1")) || Flows(many(9, 0), nil) || Flows(nil, many(9, 3)) {
		t.Errorf("a label that is not valid flows")
	}
}

// All labels over three categories: each function of two labels, against their levels.
func TestAllPairs(t *testing.T) {
	for _, a := range rows(3) {
		for _, b := range rows(3) {
			if Flows(a.label(), b.label()) != a.flows(b) {
				t.Errorf("%v to %v: %v", a, b, !a.flows(b))
			}
			if Same(a.label(), b.label()) != slices.Equal(a, b) {
				t.Errorf("%v and %v: %v", a, b, !slices.Equal(a, b))
			}
			l, e := Join(a.label(), b.label())
			check(t, "join", l, e, a.over(b, greater).label())
			l, e = Meet(a.label(), b.label())
			check(t, "meet", l, e, a.over(b, lesser).label())
		}
	}
}

// Labels of up to eight entries over twelve categories, whose joins and meets may have too many.
func TestRandomPairs(t *testing.T) {
	r := rand.New(rand.NewSource(4))
	long := 0
	checkRow := func(what string, l api.Label, e api.Errno, want row) {
		t.Helper()
		if len(want.label()) > 8 {
			checkError(t, what, l, e, api.ErrLong)
			long++
			return
		}
		check(t, what, l, e, want.label())
	}
	for range 20000 {
		a, b := randomRow(r, 8), randomRow(r, 8)
		x, y := a.label(), b.label()
		if Flows(x, y) != a.flows(b) {
			t.Errorf("%v to %v: %v", x, y, !a.flows(b))
		}
		l, e := Join(x, y)
		checkRow("join", l, e, a.over(b, greater))
		l, e = Meet(x, y)
		checkRow("meet", l, e, a.over(b, lesser))
	}
	if long < 100 {
		t.Errorf("only %d were too long", long)
	}
}

func TestJoinAndMeet(t *testing.T) {
	for _, x := range []struct{ a, b, join, meet string }{
		{"1/0=3", "1/0=2,2/0=0", "1/0=3", "1/0=2,2/0=0"}, // the chapter's example
		{"", "", "", ""},
		{"1/0=3", "", "1/0=3", ""},
		{"1/0=0", "", "", "1/0=0"},
		{"1/0=2", "1/0=2", "1/0=2", "1/0=2"},
		{"1/0=0", "1/0=0", "1/0=0", "1/0=0"},
		{"1/0=0", "1/0=3", "1/0=3", "1/0=0"},
		{"1/0=2", "2/0=3", "1/0=2,2/0=3", ""},
		{"2/0=3", "1/0=2", "1/0=2,2/0=3", ""},
		{"10/0=2", "2/0=2", "2/0=2,10/0=2", ""},
		{"1/0=0", "2/0=0", "", "1/0=0,2/0=0"},
		{"1/0=0,3/0=3", "1/0=2,2/0=3", "1/0=2,2/0=3,3/0=3", "1/0=0"},
	} {
		for _, p := range [][2]api.Label{{lb(x.a), lb(x.b)}, {lb(x.b), lb(x.a)}} {
			l, e := Join(p[0], p[1])
			check(t, "join of "+x.a+" and "+x.b, l, e, lb(x.join))
			l, e = Meet(p[0], p[1])
			check(t, "meet of "+x.a+" and "+x.b, l, e, lb(x.meet))
		}
	}
}

// Which entries remain tells whether there are too many: those of a join are tainted or secret, those of a meet trusted, but for categories in both labels.
func TestJoinAndMeetLong(t *testing.T) {
	other := lb("6/0=0,6/1=2")
	for _, x := range []struct {
		what       string
		a, b       api.Label
		join, meet int // how many entries; 0 or more, or -1 for too many
	}{
		{"eight and another", many(8, 2), other[1:], -1, 0},
		{"eight and another trusted", many(8, 2), other[:1], 8, 1},
		{"eight trusted and another", many(8, 0), other[1:], 1, 8},
		{"eight trusted and another trusted", many(8, 0), other[:1], 0, -1},
		{"seven and another", many(7, 2), other[1:], 8, 0},
		{"seven trusted and another trusted", many(7, 0), other[:1], 0, 8},
		{"eight and the same eight", many(8, 3), many(8, 2), 8, 8},
		{"eight and eight trusted", many(8, 3), many(8, 0), 8, 8},
		{"eight and one of them", many(8, 3), many(1, 2), 8, 1},
		{"eight and nothing", many(8, 3), nil, 8, 0},
		{"eight and eight others", many(8, 3), lb("6/0=2,6/1=2,6/2=2,6/3=2,6/4=2,6/5=2,6/6=2,6/7=2"), -1, 0},
		{"eight and eight others trusted", many(8, 3), lb("6/0=0,6/1=0,6/2=0,6/3=0,6/4=0,6/5=0,6/6=0,6/7=0"), 8, 8},
	} {
		for _, p := range [][2]api.Label{{x.a, x.b}, {x.b, x.a}} {
			l, e := Join(p[0], p[1])
			checkCount(t, "join of "+x.what, l, e, x.join)
			l, e = Meet(p[0], p[1])
			checkCount(t, "meet of "+x.what, l, e, x.meet)
		}
	}
}

// checkCount fails if l does not have n entries or, for -1, if e is not ErrLong.
func checkCount(t *testing.T, what string, l api.Label, e api.Errno, n int) {
	t.Helper()
	if n < 0 {
		checkError(t, what, l, e, api.ErrLong)
	} else if e != api.OK || len(l) != n || !Right(l) {
		t.Errorf("%s: %v %v, not %d entries", what, l, e, n)
	}
}

func TestJoinAndMeetWrongLabels(t *testing.T) {
	for _, l := range wrongLabels() {
		for _, right := range append(rightLabels(), l) {
			for _, p := range [][2]api.Label{{l, right}, {right, l}} {
				m, e := Join(p[0], p[1])
				checkError(t, "join with "+Text(l), m, e, api.ErrLabel)
				m, e = Meet(p[0], p[1])
				checkError(t, "meet with "+Text(l), m, e, api.ErrLabel)
			}
		}
	}
}

func TestWith(t *testing.T) {
	for _, x := range []struct {
		l     string
		cat   string
		level int
		want  string
	}{
		{"", "1/0", 0, "1/0=0"},
		{"", "1/0", 1, ""},
		{"", "1/0", 2, "1/0=2"},
		{"", "1/0", 3, "1/0=3"},
		{"1/0=2", "1/0", 3, "1/0=3"},
		{"1/0=2", "1/0", 0, "1/0=0"},
		{"1/0=2", "1/0", 2, "1/0=2"},
		{"1/0=3", "1/0", 2, "1/0=2"},
		{"1/0=2", "1/0", 1, ""},
		{"1/0=2", "2/0", 1, "1/0=2"},
		{"1/0=2", "2/0", 3, "1/0=2,2/0=3"},
		{"2/0=2", "1/0", 0, "1/0=0,2/0=2"},
		{"2/0=2,10/0=2", "9/0", 3, "2/0=2,9/0=3,10/0=2"},
		{"1/0=2,2/0=2,3/0=2", "2/0", 0, "1/0=2,2/0=0,3/0=2"},
		{"1/0=2,2/0=2,3/0=2", "2/0", 1, "1/0=2,3/0=2"},
	} {
		l, e := With(lb(x.l), x.cat, x.level)
		check(t, x.l+" with "+x.cat+"="+strconv.Itoa(x.level), l, e, lb(x.want))
	}
}

func TestWithAll(t *testing.T) {
	r := rand.New(rand.NewSource(5))
	for range 1000 {
		levels := randomRow(r, 10)
		for i, cat := range universe() {
			level := r.Intn(4)
			want := slices.Clone(levels)
			want[i] = level
			l, e := With(levels.label(), cat, level)
			switch {
			case len(levels.label()) > 8:
				checkError(t, Text(levels.label()), l, e, api.ErrLabel)
			case len(want.label()) > 8:
				checkError(t, Text(want.label()), l, e, api.ErrLong)
			default:
				check(t, Text(want.label()), l, e, want.label())
			}
		}
	}
}

func TestWithErrors(t *testing.T) {
	for _, right := range []api.Label{nil, lb("1/0=2"), many(8, 2)} {
		for _, cat := range notCats() {
			for _, level := range []int{-1, 0, 1, 2, 3, 4} {
				l, e := With(right, cat, level)
				checkError(t, cat, l, e, api.ErrCat)
			}
		}
		for _, cat := range []string{"1/0", "5/0", "9/0"} {
			for _, level := range []int{math.MinInt, -1, 4, 5, 1 << 32, math.MaxInt} {
				l, e := With(right, cat, level)
				checkError(t, cat, l, e, api.ErrLabel)
			}
		}
	}
}

func TestWithNinth(t *testing.T) {
	for _, level := range []int{0, 2, 3} {
		l, e := With(many(7, 2), "9/0", level)
		check(t, "an eighth", l, e, append(many(7, 2), api.Entry{Cat: "9/0", Level: level}))
		for _, cat := range []string{"/0", "5/8", "9/0"} {
			l, e = With(many(8, 2), cat, level)
			checkError(t, "a ninth", l, e, api.ErrLong)
		}
		l, e = With(many(8, 2), "5/7", level)
		check(t, "one of eight", l, e, append(many(7, 2), api.Entry{Cat: "5/7", Level: level}))
	}
	l, e := With(many(8, 2), "9/0", 1)
	check(t, "a ninth that is usual", l, e, many(8, 2))
	l, e = With(many(8, 2), "5/7", 1)
	check(t, "one less", l, e, many(7, 2))
}

// The label's own error comes first, also where the entry would mend the label.
func TestWithWrongLabels(t *testing.T) {
	for _, l := range wrongLabels() {
		for _, cat := range []string{"1/0", "2/0", "5/8", "9/0", "x"} {
			for _, level := range []int{-1, 0, 1, 2, 3, 4} {
				m, e := With(l, cat, level)
				checkError(t, Text(l), m, e, api.ErrLabel)
			}
		}
	}
}

func TestText(t *testing.T) {
	for _, x := range []struct {
		l    api.Label
		want string
	}{
		{nil, "-"},
		{api.Label{}, "-"},
		{api.Label{{Cat: "1/0", Level: 3}}, "1/0=3"},
		{api.Label{{Cat: "/0", Level: 0}}, "/0=0"},
		{api.Label{{Cat: "1/0", Level: 2}, {Cat: "2/0", Level: 0}}, "1/0=2,2/0=0"},
		{api.Label{{Cat: "1/9", Level: 0}, {Cat: "1/10", Level: 2}, {Cat: "1.3/0", Level: 3}}, "1/9=0,1/10=2,1.3/0=3"},
		// Labels that are not valid have their entries as they are.
		{api.Label{{Cat: "2/0", Level: 2}, {Cat: "1/0", Level: 1}}, "2/0=2,1/0=1"},
		{api.Label{{Cat: "1/0", Level: 2}, {Cat: "1/0", Level: 2}}, "1/0=2,1/0=2"},
		{api.Label{{Cat: "x", Level: -1}}, "x=-1"},
		{api.Label{{Cat: "", Level: 4}}, "=4"},
		{api.Label{{}}, "=0"},
		{api.Label{{Cat: "-", Level: 12}}, "-=12"},
		{api.Label{{Cat: "1/0", Level: math.MinInt}}, "1/0=-9223372036854775808"},
		{many(9, 2), "5/0=2,5/1=2,5/2=2,5/3=2,5/4=2,5/5=2,5/6=2,5/7=2,5/8=2"},
	} {
		if s := Text(x.l); s != x.want {
			t.Errorf("%v: %q, not %q", x.l, s, x.want)
		}
	}
}

// written returns what Put writes.
func written(l api.Label) []byte {
	var p tape.Pen
	Put(&p, l)
	return p.Bytes()
}

func TestPut(t *testing.T) {
	for _, x := range []struct {
		l    api.Label
		want string
	}{
		{nil, "\x00"},
		{api.Label{}, "\x00"},
		{lb("1/0=3"), "\x01\x031/0\x03"},
		{lb("1/0=2,2/0=0"), "\x02\x031/0\x02\x032/0\x00"},
		{lb("1.3/0=0,1.20/10=2"), "\x02\x051.3/0\x00\x071.20/10\x02"},
		// Labels that are not valid.
		{lb("2/0=3,1/0=1"), "\x02\x032/0\x03\x031/0\x01"},
		{lb("1/0=2,1/0=2"), "\x02\x031/0\x02\x031/0\x02"},
		{lb("x=4"), "\x01\x01x\x04"},
		{lb("=300"), "\x01\x00\xac\x02"},
		{lb("1/0=-1,2/0=2"), "\x02\x031/0\x032/0\x02"}, // a tape has no number for -1
		{api.Label{{Cat: "1/0", Level: math.MaxInt}}, "\x01\x031/0"},
		{many(9, 2), "\x09\x035/0\x02\x035/1\x02\x035/2\x02\x035/3\x02\x035/4\x02\x035/5\x02\x035/6\x02\x035/7\x02\x035/8\x02"},
		{api.Label{{Cat: strings.Repeat("1", 200), Level: 2}}, "\x01\xc8\x01" + strings.Repeat("1", 200) + "\x02"},
		{slices.Repeat(lb("x=2"), 200), "\xc8\x01" + strings.Repeat("\x01x\x02", 200)},
	} {
		if b := written(x.l); string(b) != x.want {
			t.Errorf("%v: %q, not %q", x.l, b, x.want)
		}
	}
}

func TestPutBehind(t *testing.T) {
	var p tape.Pen
	p.Number(300)
	Put(&p, lb("1/0=3"))
	Put(&p, nil)
	p.Text("hi")
	if b := p.Bytes(); string(b) != "\xac\x02\x01\x031/0\x03\x00\x02hi" {
		t.Errorf("%q", b)
	}
}

func TestNilPen(t *testing.T) {
	for _, l := range slices.Concat(rightLabels(), wrongLabels()) {
		Put(nil, l)
	}
}

func TestGetWhatWasPut(t *testing.T) {
	for _, l := range rightLabels() {
		r := tape.New(written(l))
		m, e := Get(r)
		check(t, Text(l), m, e, l)
		if !Same(l, m) || r.End() != nil {
			t.Errorf("%v: %v, %v", l, m, r.End())
		}
	}
}

func TestGetSeveral(t *testing.T) {
	var p tape.Pen
	for _, l := range rightLabels() {
		p.Number(1 << 40)
		Put(&p, l)
	}
	p.Text("hi")
	r := tape.New(p.Bytes())
	for _, l := range rightLabels() {
		if r.Number(1<<40) != 1<<40 {
			t.Errorf("another number is ahead of %v", l)
		}
		m, e := Get(r)
		check(t, Text(l), m, e, l)
	}
	if r.Text(2) != "hi" || r.End() != nil {
		t.Errorf("%v", r.End())
	}
}

// checkGet fails if getting a label from b does not return ErrForm, with this fault of the tape (or OK for none) and so many bytes left.
func checkGet(t *testing.T, b string, number api.Errno, left int) {
	t.Helper()
	r := tape.New([]byte(b))
	l, e := Get(r)
	checkError(t, strconv.Quote(b), l, e, api.ErrForm)
	if fault.Code(r.Err()) != number || r.Left() != left {
		t.Errorf("%q: %v, %d left, not %v, %d", b, r.Err(), r.Left(), number, left)
	}
}

func TestGetFaults(t *testing.T) {
	long := strings.Repeat("1", 81)
	for _, x := range []struct {
		b      string
		number api.Errno
		left   int
	}{
		{"", api.ErrEnd, 0},
		{"\x09", api.ErrLong, 1},
		{string(written(many(9, 2))), api.ErrLong, len(written(many(9, 2)))},
		{"\xff\xff\xff\xff\xff\xff\xff\xff\x7f", api.ErrLong, 9},
		{"\x81\x00\x031/0\x02", api.ErrForm, 7},
		{"\x01\x83\x001/0\x02", api.ErrForm, 6},
		{"\x01\x031/0\x82\x00", api.ErrForm, 2},
		{"\x01\x51" + long + "\x02", api.ErrLong, 83},
		{"\x01\xff\x7f1/0\x02", api.ErrLong, 6},
		{"\x01\x031/0\x04", api.ErrLong, 1},
		{"\x02\x031/0\x04\x032/0\x02", api.ErrLong, 6},
		{"\x02\x031/0\x02\x032/0\x04+", api.ErrLong, 2},
		{"\x01\x031/0\x82\x01", api.ErrLong, 2},
		{"\x02\x031/0\x02", api.ErrEnd, 0},
		{"\x02\x031/0\x02\x032/", api.ErrEnd, 3},
		{"\x01\x031/0", api.ErrEnd, 0},
		{"\x01", api.ErrEnd, 0},
		// What is not valid does not end the reading: the fault behind it is met.
		{"\x02\x01x\x02\x032/0\x04", api.ErrLong, 1},
		{"\x02\x01x\x02\x032/", api.ErrEnd, 3},
		{"\x02\x031/0\x01\x032/0", api.ErrEnd, 0},
	} {
		checkGet(t, x.b, x.number, x.left)
	}
}

// All parts of a label that is not valid are read, and nothing behind it.
func TestGetWrongLabels(t *testing.T) {
	for _, l := range []api.Label{
		lb("2/0=2,1/0=2"), lb("1/0=2,3/0=2,2/0=2"), lb("1/10=2,1/9=2"),
		lb("1/0=2,1/0=2"), lb("1/0=2,1/0=3"), lb("1/0=3,1/0=3,2/0=2"),
		lb("1/0=1"), lb("1/0=1,2/0=2"), lb("1/0=2,2/0=1,3/0=2"), many(8, 1),
		lb("x=2"), lb("=2"), lb("01/0=2,1/0=2"), lb("x=2,y=3,1/0=2"), lb("1/0=2,x=2"), lb("x=1,x=1,x=1,x=1,x=1,x=1,x=1,x=1"),
		{{Cat: strings.Repeat("1", 80), Level: 2}}, {{Cat: strings.Repeat("1", 80), Level: 2}, {Cat: "1/0", Level: 2}}, {{Cat: "\xff\x00", Level: 0}},
	} {
		checkGet(t, string(written(l)), api.OK, 0)
		checkGet(t, string(written(l))+"\x02hi", api.OK, 3)
	}
}

// Labels that are not valid are not got, whatever Put wrote for them.
func TestGetWrongPut(t *testing.T) {
	for _, l := range wrongLabels() {
		m, e := Get(tape.New(written(l)))
		checkError(t, Text(l), m, e, api.ErrForm)
	}
}

func TestGetTooShort(t *testing.T) {
	for _, l := range rightLabels() {
		b := written(l)
		for n := range b {
			r := tape.New(b[:n])
			m, e := Get(r)
			checkError(t, Text(l), m, e, api.ErrForm)
			if fault.Code(r.Err()) != api.ErrEnd {
				t.Errorf("%v, %d bytes: %v", l, n, r.Err())
			}
		}
	}
}

func TestGetFromFaultyTape(t *testing.T) {
	r := tape.New([]byte("\x05\x00"))
	r.Number(4)
	l, e := Get(r)
	checkError(t, "a tape with a fault", l, e, api.ErrForm)
	if r.Left() != 2 || fault.Code(r.Err()) != api.ErrLong {
		t.Errorf("%d left, %v", r.Left(), r.Err())
	}
	l, e = Get(nil)
	checkError(t, "a nil tape", l, e, api.ErrForm)
}

// What is got from any bytes is valid, and is put as those that were read.
func TestGetFromAnyBytes(t *testing.T) {
	r := rand.New(rand.NewSource(6))
	got := 0
	for range 100000 {
		b := written(randomRow(r, 10).label())
		for range r.Intn(3) {
			b[r.Intn(len(b))] = byte(r.Intn(256)) >> r.Intn(8)
		}
		tp := tape.New(b)
		l, e := Get(tp)
		if e != api.OK {
			checkError(t, "any bytes", l, e, api.ErrForm)
			continue
		}
		got++
		if !Right(l) || !bytes.Equal(written(l), b[:len(b)-tp.Left()]) {
			t.Errorf("%q: %v", b, l)
		}
	}
	if got < 1000 {
		t.Errorf("only %d labels", got)
	}
}

// Flowing is reflexive, transitive and antisymmetric.
func TestFlowingIsAnOrder(t *testing.T) {
	for _, l := range rightLabels() {
		if !Flows(l, l) {
			t.Errorf("%v does not flow to itself", l)
		}
	}
	all := rows(3)
	for _, a := range all {
		for _, b := range all {
			if !Flows(a.label(), b.label()) {
				continue
			}
			if Flows(b.label(), a.label()) && !Same(a.label(), b.label()) {
				t.Errorf("%v and %v flow both ways", a, b)
			}
			for _, c := range all {
				if Flows(b.label(), c.label()) && !Flows(a.label(), c.label()) {
					t.Errorf("%v to %v to %v", a, b, c)
				}
			}
		}
	}
}

// Both labels flow to their join, which flows to any other to which both flow; a meet is the same the other way.
func TestLeastAndGreatest(t *testing.T) {
	var all []api.Label
	for _, r := range rows(3) {
		all = append(all, r.label())
	}
	for _, a := range all {
		for _, b := range all {
			join, e := Join(a, b)
			if e != api.OK || !Flows(a, join) || !Flows(b, join) {
				t.Errorf("join of %v and %v: %v %v", a, b, join, e)
			}
			meet, e := Meet(a, b)
			if e != api.OK || !Flows(meet, a) || !Flows(meet, b) {
				t.Errorf("meet of %v and %v: %v %v", a, b, meet, e)
			}
			for _, c := range all {
				if Flows(a, c) && Flows(b, c) && !Flows(join, c) {
					t.Errorf("join of %v and %v: %v does not flow to %v", a, b, join, c)
				}
				if Flows(c, a) && Flows(c, b) && !Flows(c, meet) {
					t.Errorf("meet of %v and %v: %v does not flow to %v", a, b, c, meet)
				}
			}
		}
	}
}

// The same for labels of up to eight entries, among those near to the join and to the meet.
func TestLeastAndGreatestNear(t *testing.T) {
	r := rand.New(rand.NewSource(7))
	for range 1000 {
		a, b := randomRow(r, 5).label(), randomRow(r, 5).label()
		if join, e := Join(a, b); e == api.OK {
			for _, c := range near(join) {
				if (Flows(a, c) && Flows(b, c)) != Flows(join, c) {
					t.Errorf("join of %v and %v: %v, but %v", a, b, join, c)
				}
			}
		}
		if meet, e := Meet(a, b); e == api.OK {
			for _, c := range near(meet) {
				if (Flows(c, a) && Flows(c, b)) != Flows(c, meet) {
					t.Errorf("meet of %v and %v: %v, but %v", a, b, meet, c)
				}
			}
		}
	}
}

// near returns l, and the labels that differ from it in one category.
func near(l api.Label) []api.Label {
	found := []api.Label{l}
	for _, cat := range universe() {
		for level := range 4 {
			if m, e := With(l, cat, level); e == api.OK {
				found = append(found, m)
			}
		}
	}
	return found
}

// roomy returns a copy of l with spare capacity, in which there are three more entries.
func roomy(l api.Label) api.Label {
	return slices.Concat(l, lb("77/0=2,77/1=3,77/2=0"))[:len(l)]
}

// intact reports whether a, which was roomy(l), still is, with its spare capacity.
func intact(a, l api.Label) bool {
	return slices.Equal(a[:len(l)+3], roomy(l)[:len(l)+3])
}

// calls calls each function with these labels, and returns the labels that they return.
func calls(a, b api.Label) []api.Label {
	Right(a)
	Level(a, "1/0")
	Flows(a, b)
	Same(a, b)
	Text(a)
	Put(new(tape.Pen), a)
	made, _ := Make(a)
	join, _ := Join(a, b)
	meet, _ := Meet(a, b)
	more, _ := With(a, "6/0", 3)
	less, _ := With(a, "5/0", 1)
	same, _ := With(a, "6/0", 1)
	got, _ := Get(tape.New(written(a)))
	return []api.Label{made, join, meet, more, less, same, got}
}

func TestArgumentsStay(t *testing.T) {
	some := slices.Concat(rightLabels()[:20], wrongLabels()[:40], []api.Label{lb("3/0=2,2/0=1,3/0=0")})
	for _, x := range some {
		for _, y := range some {
			a, b := roomy(x), roomy(y)
			calls(a, b)
			if !intact(a, x) || !intact(b, y) {
				t.Errorf("%v and %v were changed", x, y)
			}
		}
	}
}

// Results are new: writing over one, with its spare capacity, changes neither an argument nor another result.
func TestResultsAreNew(t *testing.T) {
	for _, x := range rightLabels() {
		for _, y := range rightLabels() {
			a, b := roomy(x), roomy(y)
			results, want := calls(a, b), calls(slices.Clone(x), slices.Clone(y))
			for i, l := range results {
				for j := range l[:cap(l)] {
					l[:cap(l)][j] = api.Entry{Cat: "over", Level: 99}
				}
				for k := i + 1; k < len(results); k++ {
					if !slices.Equal(results[k], want[k]) {
						t.Errorf("result %d of %v and %v shares with result %d", k, x, y, i)
					}
				}
			}
			if !intact(a, x) || !intact(b, y) {
				t.Errorf("a result shares with %v or %v", x, y)
			}
		}
	}
}

// A later change of the arguments changes no result.
func TestArgumentsAreNotKept(t *testing.T) {
	for _, x := range rightLabels() {
		a := roomy(x)
		results, want := calls(a, a), calls(x, x)
		clear(a[:len(a)+3])
		for i := range results {
			if !slices.Equal(results[i], want[i]) {
				t.Errorf("result %d of %v was kept", i, x)
			}
		}
	}
}

// Very long labels and texts end too.
func TestLong(t *testing.T) {
	const size = 1 << 20
	text := strings.Repeat("1", size)
	for _, l := range []api.Label{many(size/8, 2), slices.Repeat(lb("x=3"), size), {{Cat: text, Level: 2}}, slices.Repeat(lb("1/0=2"), size)} {
		if Right(l) || Flows(l, nil) || Flows(nil, l) || Flows(l, l) || !Same(l, l) || Level(l, "9/9") != 1 {
			t.Errorf("%d entries", len(l))
		}
		for _, f := range []func(a, b api.Label) (api.Label, api.Errno){Join, Meet} {
			m, e := f(l, l)
			checkError(t, "long", m, e, api.ErrLabel)
		}
		if len(Text(l)) < len(l) || len(written(l)) < len(l) {
			t.Errorf("%d entries", len(l))
		}
		m, e := With(l, "1/0", 2)
		checkError(t, "long", m, e, api.ErrLabel)
		m, e = Get(tape.New(written(l)))
		checkError(t, "long", m, e, api.ErrForm)
	}
	l, e := Make(slices.Repeat(lb("1/0=2"), size))
	check(t, "long", l, e, lb("1/0=2"))
}
