package owns

import (
	"bytes"
	"math/bits"
	"math/rand"
	"slices"
	"strconv"
	"strings"
	"testing"

	"regency/api"
	"regency/cats"
	"regency/fault"
	"regency/label"
	"regency/tape"
)

// universe returns categories in their order, so that the tests need no order of their own. As strings they are ordered otherwise.
func universe() []string {
	return []string{
		"/0", "/2", "/10", "1/0", "1/9", "1/10", "1.3/0", "1.20/0", "2/0", "10/0",
		"1048576.1048576.1048576.1048576.1048576.1048576/65535",
	}
}

// notCats returns strings that are not categories.
func notCats() []string {
	return []string{"", "x", "1", "/", "1/", "01/0", "1/00", "1/65536", "1048577/0", "1.2.3.4.5.6.7/0", "-1/0", "1/-0", "1/0 ", " 1/0", "1/0=2", "1/0,2/0", "\xff", "-", strings.Repeat("1", 80), strings.Repeat("1", 100)}
}

// set has a bit for each category of the universe.
type set uint

// list returns the categories of a set in order, which may be too many.
func (s set) list() []string {
	var l []string
	for i, cat := range universe() {
		if s&(1<<i) != 0 {
			l = append(l, cat)
		}
	}
	return l
}

// size returns how many categories a set has.
func (s set) size() int { return bits.OnesCount(uint(s)) }

// sets returns all sets of the first n categories.
func sets(n int) []set {
	var l []set
	for s := range set(1) << n {
		l = append(l, s)
	}
	return l
}

// randomSet returns a set of the whole universe with up to most categories.
func randomSet(r *rand.Rand, most int) set {
	var s set
	for _, i := range r.Perm(len(universe()))[:r.Intn(most+1)] {
		s |= 1 << i
	}
	return s
}

// list returns the strings of a text, such as "1/0 2/0", in this order, whatever they are.
func list(text string) []string {
	return strings.Fields(text)
}

// many returns n categories in order.
func many(n int) []string {
	var l []string
	for i := range n {
		l = append(l, "5/"+strconv.Itoa(i))
	}
	return l
}

// lb returns the label of these entries, such as "1/0=3,2/0=0", in this order, whatever they are.
func lb(text string) api.Label {
	if text == "" {
		return nil
	}
	var l api.Label
	for _, part := range strings.Split(text, ",") {
		cat, level, _ := strings.Cut(part, "=")
		n, err := strconv.Atoi(level)
		if err != nil {
			panic(text)
		}
		l = append(l, api.Entry{Cat: cat, Level: n})
	}
	return l
}

// rightLists returns ownerships.
func rightLists() [][]string {
	l := [][]string{nil, {}, list("1/0"), list("/0"), list("2/0 10/0"), list("1/9 1/10"), list("1/0 1.3/0 1.20/0 2/0"), many(7), many(8)}
	r := rand.New(rand.NewSource(1))
	for range 30 {
		l = append(l, randomSet(r, 8).list())
	}
	return l
}

// wrongLists returns lists that are not ownerships, for each reason.
func wrongLists() [][]string {
	l := [][]string{
		many(9), many(10), many(100), universe(),
		list("2/0 1/0"), list("10/0 2/0"), list("1/10 1/9"), list("1.20/0 1.3/0"), list("1.3/0 1/0"), list("1/0 3/0 2/0"), list("2/0 1/0 3/0"),
		list("1/0 1/0"), list("1/0 1/0 2/0"), list("1/0 2/0 2/0"), list("1/0 2/0 1/0"), slices.Repeat(list("1/0"), 8), append(many(7), "5/6"),
		slices.Repeat(list("1/0"), 9), append(many(8), "5/7"),
		list("x y"), {"", ""},
	}
	for _, s := range notCats() {
		l = append(l, []string{s}, []string{"1/0", s}, []string{s, "1/0"}, append(many(7), s))
	}
	return l
}

// wrongLabels returns labels that are not valid, for each reason.
func wrongLabels() []api.Label {
	var nine api.Label
	for _, cat := range many(9) {
		nine = append(nine, api.Entry{Cat: cat, Level: 2})
	}
	return []api.Label{
		nine, lb("2/0=2,1/0=2"), lb("1/0=2,1/0=2"), lb("1/0=3,1/0=2"), lb("1/0=1"), lb("1/0=-1"), lb("1/0=4"), lb("x=2"), lb("=0"), lb("1/0=2,x=2"), {{}},
	}
}

// check fails if l and e are not the ownership want, and OK.
func check(t *testing.T, what string, l []string, e api.Errno, want []string) {
	t.Helper()
	if e != api.OK || !slices.Equal(l, want) {
		t.Errorf("%s: %q %v, not %q", what, l, e, want)
	}
}

// checkError fails if l and e are not nothing, and want.
func checkError(t *testing.T, what string, l []string, e, want api.Errno) {
	t.Helper()
	if e != want || len(l) != 0 {
		t.Errorf("%s: %q %v, not %v", what, l, e, want)
	}
}

func TestLimits(t *testing.T) {
	if api.MostOwn != 8 {
		t.Errorf("the tests are for other limits")
	}
	if !slices.IsSortedFunc(universe(), cats.Compare) || slices.IsSorted(universe()) {
		t.Errorf("the universe is not as it should be")
	}
}

func TestRight(t *testing.T) {
	for _, l := range rightLists() {
		if !Right(l) {
			t.Errorf("%q is not right", l)
		}
	}
	for _, l := range wrongLists() {
		if Right(l) {
			t.Errorf("%q is right", l)
		}
	}
}

func TestRightCounts(t *testing.T) {
	for n := range 40 {
		if Right(many(n)) != (n <= 8) {
			t.Errorf("%d categories", n)
		}
	}
	for _, s := range sets(len(universe())) {
		if Right(s.list()) != (s.size() <= 8) {
			t.Errorf("%q", s.list())
		}
	}
}

// Each two categories, and each one beside a string that is none.
func TestRightOrder(t *testing.T) {
	all := universe()
	for i, a := range all {
		for j, b := range all {
			if Right([]string{a, b}) != (i < j) {
				t.Errorf("%q %q", a, b)
			}
		}
		for _, b := range notCats() {
			if Right([]string{a, b}) || Right([]string{b, a}) {
				t.Errorf("%q %q", a, b)
			}
		}
	}
}

func TestHas(t *testing.T) {
	for _, s := range sets(len(universe())) {
		for i, cat := range universe() {
			if Has(s.list(), cat) != (s&(1<<i) != 0) {
				t.Errorf("%q: %q", s.list(), cat)
			}
		}
	}
	for _, l := range rightLists() {
		for _, cat := range append(notCats(), "77/7", "1/1") {
			if Has(l, cat) {
				t.Errorf("%q has %q", l, cat)
			}
		}
	}
}

// Any list has its elements, and no others, also where it is not an ownership.
func TestHasOfWrongLists(t *testing.T) {
	for _, l := range wrongLists() {
		for _, s := range l {
			if !Has(l, s) {
				t.Errorf("%q does not have %q", l, s)
			}
		}
		for _, s := range []string{"77/7", "1/1", "1/0\x00", "z"} {
			if Has(l, s) {
				t.Errorf("%q has %q", l, s)
			}
		}
	}
}

func TestAdd(t *testing.T) {
	for _, x := range []struct{ l, cat, want string }{
		{"", "1/0", "1/0"},
		{"1/0", "1/0", "1/0"},
		{"1/0", "2/0", "1/0 2/0"},
		{"2/0", "1/0", "1/0 2/0"},
		{"10/0", "2/0", "2/0 10/0"},
		{"1/9", "1/10", "1/9 1/10"},
		{"1/0 3/0", "2/0", "1/0 2/0 3/0"},
		{"1/0 2/0 3/0", "2/0", "1/0 2/0 3/0"},
		{"1/0", "/0", "/0 1/0"},
	} {
		l, e := Add(list(x.l), x.cat)
		check(t, x.l+" with "+x.cat, l, e, list(x.want))
	}
}

func TestDrop(t *testing.T) {
	for _, x := range []struct{ l, cat, want string }{
		{"1/0", "1/0", ""},
		{"1/0 2/0", "1/0", "2/0"},
		{"1/0 2/0", "2/0", "1/0"},
		{"1/0 2/0 3/0", "2/0", "1/0 3/0"},
		{"1/9 1/10", "1/9", "1/10"},
	} {
		l, e := Drop(list(x.l), x.cat)
		check(t, x.l+" without "+x.cat, l, e, list(x.want))
	}
}

// All sets over eleven categories, with each category.
func TestAddAndDropAll(t *testing.T) {
	for _, s := range sets(len(universe())) {
		for i, cat := range universe() {
			more, less := s|1<<i, s&^(1<<i)
			l, e := Add(s.list(), cat)
			m, f := Drop(s.list(), cat)
			switch what := strings.Join(s.list(), " ") + ", " + cat; {
			case s.size() > 8:
				checkError(t, what, l, e, api.ErrArg)
				checkError(t, what, m, f, api.ErrArg)
			case more == s:
				check(t, what, l, e, s.list())
				check(t, what, m, f, less.list())
			case more.size() > 8:
				checkError(t, what, l, e, api.ErrFull)
				checkError(t, what, m, f, api.ErrOwn)
			default:
				check(t, what, l, e, more.list())
				checkError(t, what, m, f, api.ErrOwn)
			}
		}
	}
}

// Where several errors apply: first that of the list, then that of the category.
func TestAddAndDropErrors(t *testing.T) {
	for _, l := range wrongLists() {
		for _, cat := range append(notCats(), "1/0", "2/0", "5/8", "9/9") {
			m, e := Add(l, cat)
			checkError(t, "add", m, e, api.ErrArg)
			m, e = Drop(l, cat)
			checkError(t, "drop", m, e, api.ErrArg)
		}
	}
	for _, l := range rightLists() {
		for _, cat := range notCats() {
			m, e := Add(l, cat)
			checkError(t, "add "+strconv.Quote(cat), m, e, api.ErrCat)
			m, e = Drop(l, cat)
			checkError(t, "drop "+strconv.Quote(cat), m, e, api.ErrCat)
		}
		m, e := Drop(l, "77/7")
		checkError(t, "drop", m, e, api.ErrOwn)
	}
}

func TestAddNinth(t *testing.T) {
	l, e := Add(many(7), "5/7")
	check(t, "an eighth", l, e, many(8))
	for _, cat := range []string{"/0", "5/8", "9/9"} {
		l, e = Add(many(8), cat)
		checkError(t, "a ninth: "+cat, l, e, api.ErrFull)
	}
	for _, cat := range many(8) {
		l, e = Add(many(8), cat)
		check(t, "one of eight: "+cat, l, e, many(8))
	}
}

// Dropping what was added gives what there was.
func TestDropWhatWasAdded(t *testing.T) {
	for _, l := range rightLists() {
		if len(l) == 8 {
			continue
		}
		more, e := Add(l, "7/7")
		if e != api.OK || !Right(more) || !Has(more, "7/7") {
			t.Errorf("%q: %q %v", l, more, e)
		}
		less, e := Drop(more, "7/7")
		check(t, "dropped", less, e, l)
	}
}

func TestUnion(t *testing.T) {
	for _, x := range []struct{ a, b, want string }{
		{"", "", ""},
		{"1/0", "", "1/0"},
		{"1/0", "1/0", "1/0"},
		{"1/0", "2/0", "1/0 2/0"},
		{"2/0", "10/0", "2/0 10/0"},
		{"1/0 2/0", "1/5 2/0", "1/0 1/5 2/0"},
		{"1/0 3/0 5/0", "2/0 4/0 6/0", "1/0 2/0 3/0 4/0 5/0 6/0"},
		{"1/0 2/0 3/0", "2/0", "1/0 2/0 3/0"},
	} {
		l, e := Union(list(x.a), list(x.b))
		check(t, x.a+" and "+x.b, l, e, list(x.want))
		l, e = Union(list(x.b), list(x.a))
		check(t, x.b+" and "+x.a, l, e, list(x.want))
	}
	l, e := Union(nil, nil)
	check(t, "none", l, e, nil)
	for _, own := range rightLists() {
		l, e = Union(own, own)
		check(t, "equal ones", l, e, own)
		l, e = Union(own, nil)
		check(t, "one and none", l, e, own)
		l, e = Union([]string{}, own)
		check(t, "none and one", l, e, own)
	}
}

func TestUnionFull(t *testing.T) {
	for n := range 9 {
		for m := range 9 {
			var other []string
			for i := range m {
				other = append(other, "6/"+strconv.Itoa(i))
			}
			l, e := Union(many(n), other)
			if n+m > 8 {
				checkError(t, "too many", l, e, api.ErrFull)
			} else {
				check(t, "apart", l, e, slices.Concat(many(n), other))
			}
		}
	}
	l, e := Union(many(8), many(8))
	check(t, "the same eight", l, e, many(8))
	l, e = Union(many(8), many(3))
	check(t, "eight and some of them", l, e, many(8))
	l, e = Union(many(8)[1:], many(8)[:7])
	check(t, "eight together", l, e, many(8))
	l, e = Union(many(9)[1:], many(8))
	checkError(t, "nine together", l, e, api.ErrFull)
}

func TestUnionWrongLists(t *testing.T) {
	for _, l := range wrongLists() {
		for _, right := range append(rightLists(), l) {
			m, e := Union(l, right)
			checkError(t, "the first", m, e, api.ErrArg)
			m, e = Union(right, l)
			checkError(t, "the second", m, e, api.ErrArg)
		}
	}
}

func TestWithin(t *testing.T) {
	for _, x := range []struct {
		a, b string
		want bool
	}{
		{"", "", true},
		{"", "1/0", true},
		{"1/0", "", false},
		{"1/0", "1/0", true},
		{"1/0", "2/0", false},
		{"1/0", "1/0 2/0", true},
		{"2/0", "1/0 2/0", true},
		{"1/0 2/0", "1/0", false},
		{"1/0 2/0", "2/0", false},
		{"1/0 3/0", "1/0 2/0 3/0", true},
		{"1/0 3/0", "1/0 2/0 4/0", false},
	} {
		if Within(list(x.a), list(x.b)) != x.want {
			t.Errorf("%s within %s: not %v", x.a, x.b, x.want)
		}
	}
	if !Within(nil, []string{}) || !Within([]string{}, nil) || !Within(many(8), many(8)) {
		t.Errorf("nothing, or eight")
	}
}

// A list that is not an ownership is within nothing, and nothing is within it, also where its elements would allow that.
func TestWithinWrongLists(t *testing.T) {
	for _, l := range wrongLists() {
		for _, right := range append(rightLists(), l) {
			if Within(l, right) || Within(right, l) {
				t.Errorf("%q and %q", l, right)
			}
		}
	}
}

// Any two sets, against what they have.
func TestRandomPairs(t *testing.T) {
	r := rand.New(rand.NewSource(2))
	full, inside := 0, 0
	for range 10000 {
		a, b := randomSet(r, 8), randomSet(r, 8)
		if r.Intn(2) == 0 {
			a &= b
		}
		l, e := Union(a.list(), b.list())
		if both := a | b; both.size() > 8 {
			checkError(t, "union", l, e, api.ErrFull)
			full++
		} else {
			check(t, "union", l, e, both.list())
		}
		want := a&^b == 0
		if Within(a.list(), b.list()) != want {
			t.Errorf("%q within %q: not %v", a.list(), b.list(), want)
		}
		if want {
			inside++
		}
	}
	if full < 100 || inside < 100 || inside > 9900 {
		t.Errorf("%d full, %d inside", full, inside)
	}
}

func TestFlows(t *testing.T) {
	for _, x := range []struct {
		a, b, l string
		want    bool
	}{
		{"1/0=3", "", "1/0", true}, // the chapter's example
		{"1/0=3", "", "", false},
		{"1/0=3", "", "2/0", false},
		{"1/0=2", "", "1/0", true},
		{"", "1/0=0", "", false},
		{"", "1/0=0", "1/0", true},
		{"1/0=3", "1/0=0", "1/0", true},
		{"1/0=3", "1/0=2", "2/0", false},
		{"1/0=3,2/0=2", "", "1/0", false},
		{"1/0=3,2/0=2", "", "2/0", false},
		{"1/0=3,2/0=2", "", "1/0 2/0", true},
		{"1/0=3", "2/0=0", "1/0", false},
		{"1/0=3", "2/0=0", "2/0", false},
		{"1/0=3", "2/0=0", "1/0 2/0", true},
		{"1/0=3", "2/0=0", "1/0 2/0 3/0", true},
		{"1/0=3,2/0=2", "2/0=3", "1/0", true},
		{"1/0=0", "", "", true},
		{"1/0=0", "", "1/0", true},
		{"", "1/0=3", "", true},
		{"", "1/0=3", "1/0", true},
		{"", "", "", true},
		{"", "", "1/0", true},
		// A category of the same path, or with the same last number, is another one.
		{"1/0=3", "", "1/1 1/2", false},
		{"1/0=3", "", "1.0/0 2/0", false},
	} {
		if Flows(lb(x.a), lb(x.b), list(x.l)) != x.want {
			t.Errorf("%s to %s under %s: not %v", x.a, x.b, x.l, x.want)
		}
	}
	if !Flows(nil, api.Label{}, []string{}) || !Flows(api.Label{}, nil, nil) {
		t.Errorf("nil and empty arguments differ")
	}
}

// row has a level for each category of the universe.
type row []int

// label returns the label of a row.
func (r row) label() api.Label {
	var l api.Label
	for i, level := range r {
		if level != 1 {
			l = append(l, api.Entry{Cat: universe()[i], Level: level})
		}
	}
	return l
}

// flows reports whether no level of r is greater than that of s, but for the categories of a set.
func (r row) flows(s row, under set) bool {
	for i := range r {
		if under&(1<<i) == 0 && r[i] > s[i] {
			return false
		}
	}
	return true
}

// rows returns all rows of the first n categories.
func rows(n int) []row {
	l := []row{nil}
	for range n {
		var longer []row
		for _, r := range l {
			for level := range 4 {
				longer = append(longer, append(slices.Clone(r), level))
			}
		}
		l = longer
	}
	return l
}

// randomRow returns a row of the whole universe with up to most levels that are not the usual one.
func randomRow(r *rand.Rand, most int) row {
	levels := slices.Repeat(row{1}, len(universe()))
	for _, i := range r.Perm(len(levels))[:r.Intn(most+1)] {
		levels[i] = []int{0, 2, 3}[r.Intn(3)]
	}
	return levels
}

// checkFlows fails if the labels of two rows do not flow, see and alter under a set as their levels say.
func checkFlows(t *testing.T, a, b row, s set) {
	t.Helper()
	x, y, l := a.label(), b.label(), s.list()
	there, back := a.flows(b, s), b.flows(a, s)
	if Flows(x, y, l) != there {
		t.Errorf("%v to %v under %q: not %v", x, y, l, there)
	}
	if Sees(x, y, l) != there {
		t.Errorf("%v seen by %v under %q: not %v", x, y, l, there)
	}
	if Alters(x, y, l) != (there && back) {
		t.Errorf("%v altered by %v under %q: not %v", x, y, l, there && back)
	}
}

// All labels over three categories, under all ownerships of four.
func TestAllFlows(t *testing.T) {
	for _, a := range rows(3) {
		for _, b := range rows(3) {
			for _, s := range sets(4) {
				checkFlows(t, a, b, s)
			}
		}
	}
}

// Labels of up to eight entries, under ownerships of up to eight categories.
func TestRandomFlows(t *testing.T) {
	r := rand.New(rand.NewSource(3))
	flowing := 0
	for range 10000 {
		a, b, s := randomRow(r, 8), randomRow(r, 8), randomSet(r, 8)
		checkFlows(t, a, b, s)
		if a.flows(b, s) {
			flowing++
		}
	}
	if flowing < 500 || flowing > 9500 {
		t.Errorf("%d flow", flowing)
	}
}

func TestSeesAndAlters(t *testing.T) {
	for _, x := range []struct {
		object, thread, l string
		sees, alters      bool
	}{
		{"", "", "", true, true},
		{"1/0=3", "1/0=3", "", true, true},
		{"1/0=3", "", "", false, false},
		{"1/0=3", "", "1/0", true, true},
		{"", "1/0=3", "", true, false}, // a thread with a secret may not tell it
		{"", "1/0=3", "1/0", true, true},
		{"1/0=0", "", "", true, false}, // a trusted object is changed by none that is not
		{"1/0=0", "", "1/0", true, true},
		{"", "1/0=0", "", false, false}, // what is not trusted is not seen, though it could be changed
		{"1/0=2", "1/0=3", "", true, false},
		{"1/0=3", "1/0=2", "", false, false},
		{"1/0=3,2/0=2", "", "1/0", false, false},
		{"1/0=3", "2/0=3", "1/0", true, false},
		{"1/0=3", "2/0=3", "2/0", false, false},
		{"1/0=3", "2/0=3", "1/0 2/0", true, true},
	} {
		object, thread, l := lb(x.object), lb(x.thread), list(x.l)
		if Sees(object, thread, l) != x.sees || Alters(object, thread, l) != x.alters {
			t.Errorf("%s by %s under %s: not %v, %v", x.object, x.thread, x.l, x.sees, x.alters)
		}
	}
}

// none fails if anything flows, is seen or is altered.
func none(t *testing.T, a, b api.Label, l []string) {
	t.Helper()
	if Flows(a, b, l) || Sees(a, b, l) || Alters(a, b, l) {
		t.Errorf("%v to %v under %q", a, b, l)
	}
}

// A label that is not valid flows nowhere and nothing flows to it, also where all that is wrong with it is owned.
func TestFlowsWrongLabels(t *testing.T) {
	rights := []api.Label{nil, {}, lb("1/0=0"), lb("1/0=3"), lb("1/0=3,2/0=3")}
	lists := [][]string{nil, list("1/0"), list("1/0 2/0"), many(8), {"x"}, {""}}
	for _, wrong := range wrongLabels() {
		for _, l := range lists {
			for _, right := range append(rights, wrong) {
				none(t, wrong, right, l)
				none(t, right, wrong, l)
			}
		}
	}
}

// Nothing flows under a list that is not an ownership, also where it would flow under none.
func TestFlowsWrongLists(t *testing.T) {
	labels := []api.Label{nil, {}, lb("1/0=0"), lb("1/0=3"), lb("5/0=2")}
	for _, l := range wrongLists() {
		for _, a := range labels {
			for _, b := range labels {
				none(t, a, b, l)
			}
		}
	}
}

// What a thread sees or alters, it does also if it owns more.
func TestOwningMore(t *testing.T) {
	for _, a := range rows(2) {
		for _, b := range rows(2) {
			for _, less := range sets(3) {
				for _, more := range sets(3) {
					if Within(less.list(), more.list()) {
						checkOwningMore(t, a.label(), b.label(), less.list(), more.list())
					}
				}
			}
		}
	}
	r := rand.New(rand.NewSource(4))
	for range 10000 {
		more := randomSet(r, 8)
		less := more & randomSet(r, 8)
		checkOwningMore(t, randomRow(r, 8).label(), randomRow(r, 8).label(), less.list(), more.list())
	}
}

// checkOwningMore fails if a thread that owns less sees or alters an object that one that owns more does not.
func checkOwningMore(t *testing.T, object, thread api.Label, less, more []string) {
	t.Helper()
	if Sees(object, thread, less) && !Sees(object, thread, more) {
		t.Errorf("%v by %v: seen under %q, not under %q", object, thread, less, more)
	}
	if Alters(object, thread, less) && !Alters(object, thread, more) {
		t.Errorf("%v by %v: altered under %q, not under %q", object, thread, less, more)
	}
}

// Without ownership, seeing is flowing, and altering is flowing both ways: both labels are the same.
func TestWithoutOwnership(t *testing.T) {
	var labels []api.Label
	for _, r := range rows(3) {
		labels = append(labels, r.label())
	}
	labels = append(labels, wrongLabels()...)
	for _, a := range labels {
		for _, b := range labels {
			for _, l := range [][]string{nil, {}} {
				if Sees(a, b, l) != label.Flows(a, b) || Flows(a, b, l) != label.Flows(a, b) {
					t.Errorf("%v to %v: not %v", a, b, label.Flows(a, b))
				}
				if Alters(a, b, l) != (label.Right(a) && label.Same(a, b)) {
					t.Errorf("%v and %v: %v", a, b, Alters(a, b, l))
				}
			}
		}
	}
}

// written returns what Put writes.
func written(l []string) []byte {
	var p tape.Pen
	Put(&p, l)
	return p.Bytes()
}

func TestPut(t *testing.T) {
	for _, x := range []struct {
		l    []string
		want string
	}{
		{nil, "\x00"},
		{[]string{}, "\x00"},
		{list("1/0"), "\x01\x031/0"},
		{list("1.3/0 1.20/10"), "\x02\x051.3/0\x071.20/10"},
		{many(8), "\x08\x035/0\x035/1\x035/2\x035/3\x035/4\x035/5\x035/6\x035/7"},
		// Lists that are not ownerships.
		{list("2/0 1/0"), "\x02\x032/0\x031/0"},
		{list("1/0 1/0"), "\x02\x031/0\x031/0"},
		{[]string{"x", "", "\xff"}, "\x03\x01x\x00\x01\xff"},
		{many(9), "\x09\x035/0\x035/1\x035/2\x035/3\x035/4\x035/5\x035/6\x035/7\x035/8"},
		{[]string{strings.Repeat("1", 200)}, "\x01\xc8\x01" + strings.Repeat("1", 200)},
		{slices.Repeat(list("x"), 200), "\xc8\x01" + strings.Repeat("\x01x", 200)},
	} {
		if b := written(x.l); string(b) != x.want {
			t.Errorf("%q: %q, not %q", x.l, b, x.want)
		}
	}
}

func TestPutBehind(t *testing.T) {
	var p tape.Pen
	p.Number(300)
	Put(&p, list("1/0"))
	Put(&p, nil)
	p.Text("hi")
	if b := p.Bytes(); string(b) != "\xac\x02\x01\x031/0\x00\x02hi" {
		t.Errorf("%q", b)
	}
}

func TestNilPen(t *testing.T) {
	for _, l := range slices.Concat(rightLists(), wrongLists()) {
		Put(nil, l)
	}
}

func TestGetWhatWasPut(t *testing.T) {
	for _, l := range rightLists() {
		r := tape.New(written(l))
		m, e := Get(r)
		check(t, strings.Join(l, " "), m, e, l)
		if r.End() != nil {
			t.Errorf("%q: %v", l, r.End())
		}
	}
}

func TestGetSeveral(t *testing.T) {
	var p tape.Pen
	for _, l := range rightLists() {
		p.Number(1 << 40)
		Put(&p, l)
	}
	p.Text("hi")
	r := tape.New(p.Bytes())
	for _, l := range rightLists() {
		if r.Number(1<<40) != 1<<40 {
			t.Errorf("another number is ahead of %q", l)
		}
		m, e := Get(r)
		check(t, strings.Join(l, " "), m, e, l)
	}
	if r.Text(2) != "hi" || r.End() != nil {
		t.Errorf("%v", r.End())
	}
}

// checkGet fails if getting an ownership from b does not return ErrForm, with this fault of the tape (or OK for none) and so many bytes left.
func checkGet(t *testing.T, b string, number api.Errno, left int) {
	t.Helper()
	r := tape.New([]byte(b))
	l, e := Get(r)
	checkError(t, strconv.Quote(b), l, e, api.ErrForm)
	if fault.Code(r.Err()) != number || r.Left() != left {
		t.Errorf("%q: %v, %d left, not %v, %d", b, r.Err(), r.Left(), number, left)
	}
}

func TestGetFaults(t *testing.T) {
	for _, x := range []struct {
		b      string
		number api.Errno
		left   int
	}{
		{"", api.ErrEnd, 0},
		{"\x09", api.ErrLong, 1},
		{string(written(many(9))), api.ErrLong, len(written(many(9)))},
		{"\xff\xff\xff\xff\xff\xff\xff\xff\x7f", api.ErrLong, 9},
		{"\x81\x00\x031/0", api.ErrForm, 6},
		{"\x80", api.ErrEnd, 1},
		{"\x01\x83\x001/0", api.ErrForm, 5},
		{"\x01\x51" + strings.Repeat("1", 81), api.ErrLong, 82},
		{"\x02\x031/0\x51" + strings.Repeat("1", 81), api.ErrLong, 82},
		{"\x01\xff\x7f1/0", api.ErrLong, 5},
		{"\x01", api.ErrEnd, 0},
		{"\x01\x031/", api.ErrEnd, 3},
		{"\x02\x031/0", api.ErrEnd, 0},
		{"\x02\x031/0\x032/", api.ErrEnd, 3},
		// What is not an ownership does not end the reading: the fault behind it is met.
		{"\x02\x01x\x032/", api.ErrEnd, 3},
		{"\x03\x032/0\x031/0\x51" + strings.Repeat("1", 81), api.ErrLong, 82},
		{"\x03\x031/0\x031/0", api.ErrEnd, 0},
		// What was read ahead of the fault counts for nothing, and neither does what is behind it.
		{"\x03\x031/0\x51\x032/0\x033/0", api.ErrLong, 9},
	} {
		checkGet(t, x.b, x.number, x.left)
	}
}

// All parts of what is not an ownership are read, and nothing behind it.
func TestGetWrongLists(t *testing.T) {
	for _, l := range [][]string{
		list("2/0 1/0"), list("1/0 3/0 2/0"), list("1/10 1/9"), list("10/0 2/0"),
		list("1/0 1/0"), list("1/0 2/0 2/0"), list("1/0 1/0 2/0"), slices.Repeat(list("1/0"), 8),
		{"x"}, {""}, list("01/0 1/0"), list("x y 1/0"), list("1/0 x"), list("1/0 x 2/0"), slices.Repeat([]string{""}, 8),
		{strings.Repeat("1", 80)}, {strings.Repeat("1", 80), "1/0"}, {"\xff\x00"},
	} {
		checkGet(t, string(written(l)), api.OK, 0)
		checkGet(t, string(written(l))+"\x02hi", api.OK, 3)
	}
}

// Lists that are not ownerships are not got, whatever Put wrote for them.
func TestGetWrongPut(t *testing.T) {
	for _, l := range wrongLists() {
		m, e := Get(tape.New(written(l)))
		checkError(t, strings.Join(l, " "), m, e, api.ErrForm)
	}
}

func TestGetTooShort(t *testing.T) {
	for _, l := range rightLists() {
		b := written(l)
		for n := range b {
			r := tape.New(b[:n])
			m, e := Get(r)
			checkError(t, strings.Join(l, " "), m, e, api.ErrForm)
			if fault.Code(r.Err()) != api.ErrEnd {
				t.Errorf("%q, %d bytes: %v", l, n, r.Err())
			}
		}
	}
}

func TestGetFromFaultyTape(t *testing.T) {
	r := tape.New([]byte("\x05\x00"))
	r.Number(4)
	l, e := Get(r)
	checkError(t, "a tape with a fault", l, e, api.ErrForm)
	if r.Left() != 2 || fault.Code(r.Err()) != api.ErrLong {
		t.Errorf("%d left, %v", r.Left(), r.Err())
	}
	l, e = Get(nil)
	checkError(t, "a nil tape", l, e, api.ErrForm)
}

// What is got from any bytes is an ownership, and is put as those that were read.
func TestGetFromAnyBytes(t *testing.T) {
	r := rand.New(rand.NewSource(5))
	got := 0
	for range 50000 {
		b := written(randomSet(r, 10).list())
		for range r.Intn(3) {
			b[r.Intn(len(b))] = byte(r.Intn(256)) >> r.Intn(8)
		}
		tp := tape.New(b)
		l, e := Get(tp)
		if e != api.OK {
			checkError(t, "any bytes", l, e, api.ErrForm)
			continue
		}
		got++
		if !Right(l) || !bytes.Equal(written(l), b[:len(b)-tp.Left()]) {
			t.Errorf("%q: %q", b, l)
		}
	}
	if got < 1000 || got > 49000 {
		t.Errorf("%d ownerships", got)
	}
}

// roomy returns a copy of l with spare capacity, in which there are three more strings.
func roomy(l []string) []string {
	return slices.Concat(l, list("77/0 77/1 77/2"))[:len(l)]
}

// intact reports whether a, which was roomy(l), still is, with its spare capacity.
func intact(a, l []string) bool {
	return slices.Equal(a[:len(l)+3], roomy(l)[:len(l)+3])
}

// calls calls each function with these lists, and returns the lists that they return.
func calls(a, b []string) [][]string {
	Right(a)
	Has(a, "1/0")
	Within(a, b)
	Flows(lb("1/0=3"), nil, a)
	Sees(lb("1/0=3"), nil, a)
	Alters(lb("1/0=3"), nil, a)
	Put(new(tape.Pen), a)
	more, _ := Add(a, "6/0")
	same, _ := Add(a, "5/0")
	again, _ := Add(a, "1/0")
	less, _ := Drop(a, "5/0")
	first, _ := Drop(a, "1/0")
	both, _ := Union(a, b)
	other, _ := Union(b, a)
	got, _ := Get(tape.New(written(a)))
	return [][]string{more, same, again, less, first, both, other, got}
}

func TestArgumentsStay(t *testing.T) {
	some := slices.Concat(rightLists(), wrongLists())
	for _, x := range some {
		for _, y := range some {
			a, b := roomy(x), roomy(y)
			calls(a, b)
			if !intact(a, x) || !intact(b, y) {
				t.Errorf("%q and %q were changed", x, y)
			}
		}
	}
}

func TestLabelsStay(t *testing.T) {
	for _, f := range []func(a, b api.Label, l []string) bool{Flows, Sees, Alters} {
		for _, text := range []string{"1/0=3", "1/0=0,2/0=2", "2/0=2,1/0=2", "1/0=1"} {
			whole := lb(text + ",77/0=2,77/1=3")
			l := whole[:len(whole)-2]
			for _, own := range [][]string{nil, list("1/0"), list("1/0 2/0")} {
				f(l, lb("3/0=2"), own)
				f(lb("3/0=2"), l, own)
				f(l, l, own)
			}
			if !slices.Equal(whole, lb(text+",77/0=2,77/1=3")) {
				t.Errorf("%s became %v", text, whole)
			}
		}
	}
}

// Results are new: writing over one, with its spare capacity, changes neither an argument nor another result.
func TestResultsAreNew(t *testing.T) {
	for _, x := range rightLists() {
		for _, y := range rightLists() {
			a, b := roomy(x), roomy(y)
			results, want := calls(a, b), calls(slices.Clone(x), slices.Clone(y))
			for i, l := range results {
				for j := range l[:cap(l)] {
					l[:cap(l)][j] = "over"
				}
				for k := i + 1; k < len(results); k++ {
					if !slices.Equal(results[k], want[k]) {
						t.Errorf("result %d of %q and %q shares with result %d", k, x, y, i)
					}
				}
			}
			if !intact(a, x) || !intact(b, y) {
				t.Errorf("a result shares with %q or %q", x, y)
			}
		}
	}
}

// A later change of the arguments changes no result.
func TestArgumentsAreNotKept(t *testing.T) {
	for _, x := range rightLists() {
		a := roomy(x)
		results, want := calls(a, a), calls(x, x)
		clear(a[:len(a)+3])
		for i := range results {
			if !slices.Equal(results[i], want[i]) {
				t.Errorf("result %d of %q was kept", i, x)
			}
		}
	}
}

// Very long lists and strings end too.
func TestLong(t *testing.T) {
	const size = 1 << 20
	for _, l := range [][]string{many(size / 8), slices.Repeat(list("x"), size), {strings.Repeat("1", size)}, slices.Repeat(list("1/0"), size)} {
		if Right(l) || Within(l, l) || Within(nil, l) || Within(l, nil) || Has(l, "9/9") || !Has(l, l[len(l)-1]) {
			t.Errorf("%d strings", len(l))
		}
		if Flows(nil, nil, l) || Sees(nil, nil, l) || Alters(nil, nil, l) {
			t.Errorf("flowing under %d strings", len(l))
		}
		for _, f := range []func(l []string, cat string) ([]string, api.Errno){Add, Drop} {
			m, e := f(l, "1/0")
			checkError(t, "long", m, e, api.ErrArg)
		}
		m, e := Union(l, l)
		checkError(t, "long", m, e, api.ErrArg)
		if len(written(l)) < len(l) {
			t.Errorf("%d strings", len(l))
		}
		m, e = Get(tape.New(written(l)))
		checkError(t, "long", m, e, api.ErrForm)
	}
	text := strings.Repeat("1", size)
	for _, f := range []func(l []string, cat string) ([]string, api.Errno){Add, Drop} {
		m, e := f(many(8), text)
		checkError(t, "long", m, e, api.ErrCat)
	}
}
