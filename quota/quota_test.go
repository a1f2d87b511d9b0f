package quota

import (
	"bytes"
	"maps"
	"math"
	"math/rand"
	"reflect"
	"slices"
	"strconv"
	"strings"
	"testing"

	"regency/api"
	"regency/path"
	"regency/table"
)

const most = 1 << 20 // MostQuota

// at returns the path with this text.
func at(text string) []int {
	p, ok := path.Parse(text)
	if !ok {
		panic(text)
	}
	return p
}

// segment returns a segment of n bytes.
func segment(n int) api.Object {
	return api.Object{Kind: api.Segment, Bytes: bytes.Repeat([]byte{'x'}, n)}
}

// box returns a container with these kids.
func box(kids ...api.Kid) api.Object {
	o := api.Object{Kind: api.Container, Kids: kids}
	for _, k := range kids {
		o.Next = k.N + 1
	}
	return o
}

// kid returns a kid of a container.
func kid(n, kind, quota int) api.Kid {
	return api.Kid{N: n, Kind: kind, Quota: quota}
}

// secret returns o with a label of its own.
func secret(o api.Object, level int) api.Object {
	o.Label = api.Label{{Cat: "1/0", Level: level}}
	return o
}

// thread returns a thread that owns n categories.
func thread(n int) api.Object {
	o := api.Object{Kind: api.Thread}
	for i := range n {
		o.Own = append(o.Own, strconv.Itoa(i)+"/0")
	}
	return o
}

// gate returns a gate that gives one category, with an entry.
func gate() api.Object {
	return api.Object{Kind: api.Gate, Own: []string{"1/0"}, Entry: api.Label{{Cat: "1/0", Level: 3}}, Ring: 5}
}

// space returns a space with n maps.
func space(n int) api.Object {
	o := api.Object{Kind: api.Space}
	for i := range n {
		o.Maps = append(o.Maps, api.Map{At: 3 * i, Seg: []int{1, i}, Write: i%2 == 0})
	}
	return o
}

// made returns the table with these objects.
func made(t *testing.T, objects map[string]api.Object) *table.Table {
	t.Helper()
	x, e := table.Of(objects)
	if e != api.OK {
		t.Fatalf("%v: %v", objects, e)
	}
	return x
}

// sample returns a table with objects of each Kind, nested containers, and the container 10, all of whose quota is given.
func sample(t *testing.T) *table.Table {
	t.Helper()
	return made(t, map[string]api.Object{
		"":        box(kid(0, 1, 1000), kid(1, 2, 30), kid(2, 3, 60), kid(3, 4, 90), kid(4, 5, 120), kid(10, 1, 96)),
		"0":       box(kid(0, 1, 500), kid(1, 1, 200), kid(2, 2, 40)),
		"0.0":     secret(box(kid(0, 1, 100)), 2),
		"0.0.0":   secret(box(kid(0, 2, 66)), 3),
		"0.0.0.0": secret(segment(50), 3),
		"0.1":     box(),
		"0.2":     segment(4),
		"1":       segment(3),
		"2":       thread(1),
		"3":       gate(),
		"4":       space(2),
		"10":      box(kid(2, 3, 40), kid(10, 2, 40)),
		"10.2":    thread(2),
		"10.10":   segment(24),
	})
}

// row is what the functions tell of an object.
type row struct {
	text                           string
	quota, uses, below, free, deep int
}

// rows returns what is to be told of the sample, in order.
func rows() []row {
	return []row{
		{"", most, 1412, 999, most - 1412, 401},
		{"0", 1000, 756, 152, 244, 150},
		{"0.0", 500, 116, 82, 384, 98},
		{"0.0.0", 100, 82, 66, 18, 82},
		{"0.0.0.0", 66, 66, 0, 0, 66},
		{"0.1", 200, 16, 0, 184, 16},
		{"0.2", 40, 20, 0, 20, 20},
		{"1", 30, 19, 0, 11, 19},
		{"2", 60, 24, 0, 36, 24},
		{"3", 90, 40, 0, 50, 40},
		{"4", 120, 64, 0, 56, 64},
		{"10", 96, 96, 72, 0, 88},
		{"10.2", 40, 32, 0, 8, 32},
		{"10.10", 40, 40, 0, 0, 40},
	}
}

// lines returns the ledger that these rows make.
func lines(rows []row) []api.Line {
	var l []api.Line
	for _, r := range rows {
		l = append(l, api.Line{Path: at(r.text), Quota: r.quota, Uses: r.uses, Below: r.below})
	}
	return l
}

// missing returns paths of no object of the sample, and lists that are not paths.
func missing() [][]int {
	return [][]int{
		{5}, {9}, {11}, {most}, {0, 3}, {0, 1, 0}, {0, 2, 0}, {1, 0}, {2, 0}, {0, 0, 0, 1}, {0, 0, 0, 0, 0}, {10, 1}, {10, 2, 0}, {10, 10, 0, 0, 0, 0}, {5, 0},
		{-1}, {0, -1}, {most + 1}, {math.MinInt}, {math.MaxInt}, {0, 0, math.MaxInt}, {0, 0, 0, 0, 0, 0, 0}, {0, 0, 0, 0, 0, 0, 0, 0},
	}
}

// wrong returns numbers that are not from least to most.
func wrong(least int) []int {
	return []int{least - 1, least - 2, most + 1, most + 2, math.MinInt, math.MinInt + 1, math.MaxInt, math.MaxInt - 1}
}

// checkSame checks that what a call left behind is what was there before.
func checkSame(t *testing.T, what string, x *table.Table, before []byte) {
	t.Helper()
	if !bytes.Equal(x.Bytes(), before) {
		t.Errorf("%s: the table has changed", what)
	}
}

// sameLines reports whether two ledgers are equal, where nil and empty paths are.
func sameLines(a, b []api.Line) bool {
	return slices.EqualFunc(a, b, func(x, y api.Line) bool {
		return slices.Equal(x.Path, y.Path) && x.Quota == y.Quota && x.Uses == y.Uses && x.Below == y.Below
	})
}

// thing is an object of a model: own is its usage without the Quotas of its Kids.
type thing struct{ kind, quota, own int }

// model has the objects of a table by the texts of their paths, without any care for speed.
type model map[string]thing

// modelOf returns the model of a table.
func modelOf(x *table.Table) model {
	m := model{}
	for _, p := range x.Paths() {
		o, _ := x.Get(p)
		m[path.Text(p)] = thing{o.Kind, x.Quota(p), 16 + len(o.Bytes) + 8*len(o.Own) + 16*len(o.Entry) + 24*len(o.Maps)}
	}
	return m
}

// above returns the text of the parent. It returns false for the root.
func above(text string) (string, bool) {
	if text == "" {
		return "", false
	}
	return text[:max(0, strings.LastIndexByte(text, '.'))], true
}

// kids returns the texts of the kids of the object with this text.
func (m model) kids(text string) []string {
	var l []string
	for k := range m {
		if a, ok := above(k); ok && a == text {
			l = append(l, k)
		}
	}
	return l
}

// uses returns the usage of an object.
func (m model) uses(text string) int {
	n := m[text].own
	for _, k := range m.kids(text) {
		n += m[k].quota
	}
	return n
}

// deep is Deep of the model.
func (m model) deep(text string) int {
	n := 0
	for k, x := range m {
		if k == text || text == "" || strings.HasPrefix(k, text+".") {
			n += x.own
		}
	}
	return n
}

// line is the line of the ledger for an object.
func (m model) line(text string) api.Line {
	l := api.Line{Path: at(text), Quota: m[text].quota, Uses: m.uses(text)}
	for _, k := range m.kids(text) {
		l.Below += m.uses(k)
	}
	return l
}

// ledger is Ledger of the model.
func (m model) ledger() []api.Line {
	var l []api.Line
	for text := range m {
		l = append(l, m.line(text))
	}
	slices.SortFunc(l, func(a, b api.Line) int { return slices.Compare(a.Path, b.Path) })
	return l
}

// move is Move of the model.
func (m model) move(text string, n int) api.Errno {
	x, ok := m[text]
	if !ok {
		return api.ErrName
	}
	a, ok := above(text)
	if n < -most || n > most || !ok {
		return api.ErrArg
	}
	quota := x.quota + n
	if quota < 0 || quota > most || m.uses(text) > quota || m.uses(a)+n > m[a].quota {
		return api.ErrQuota
	}
	x.quota = quota
	m[text] = x
	return api.OK
}

// shift is Shift of the model.
func (m model) shift(from, to string, n int) api.Errno {
	if n < 0 || n > most {
		return api.ErrArg
	}
	c := maps.Clone(m)
	if e := c.move(from, -n); e != api.OK {
		return e
	}
	if e := c.move(to, n); e != api.OK {
		return e
	}
	maps.Copy(m, c)
	return api.OK
}

// bytesOf returns the bytes of the table x with the quotas of the model in place of its own.
func (m model) bytesOf(t *testing.T, x *table.Table) []byte {
	t.Helper()
	objects := map[string]api.Object{}
	for _, p := range x.Paths() {
		o, _ := x.Get(p)
		for i, k := range o.Kids {
			o.Kids[i].Quota = m[path.Text(append(slices.Clone(p), k.N))].quota
		}
		objects[path.Text(p)] = o
	}
	return made(t, objects).Bytes()
}

// checkMove checks Move against the model, and the table that it leaves behind.
func checkMove(t *testing.T, x *table.Table, p []int, n int, e api.Errno) {
	t.Helper()
	m := modelOf(x)
	if f := m.move(path.Text(p), n); f != e {
		t.Fatalf("%v by %d: the model has %v, not %v", p, n, f, e)
	}
	want := m.bytesOf(t, x)
	if f := Move(x, p, n); f != e {
		t.Errorf("%v by %d: %v, not %v", p, n, f, e)
	}
	checkSame(t, "move of "+path.Text(p)+" by "+strconv.Itoa(n), x, want)
}

// checkShift checks Shift against the model, and the table that it leaves behind.
func checkShift(t *testing.T, x *table.Table, from, to []int, n int, e api.Errno) {
	t.Helper()
	m := modelOf(x)
	if f := m.shift(path.Text(from), path.Text(to), n); f != e {
		t.Fatalf("%v to %v, %d: the model has %v, not %v", from, to, n, f, e)
	}
	want := m.bytesOf(t, x)
	if f := Shift(x, from, to, n); f != e {
		t.Errorf("%v to %v, %d: %v, not %v", from, to, n, f, e)
	}
	checkSame(t, "shift from "+path.Text(from)+" to "+path.Text(to)+" of "+strconv.Itoa(n), x, want)
}

func TestLimits(t *testing.T) {
	if api.MostQuota != most {
		t.Errorf("%d", api.MostQuota)
	}
}

// P10.1

func TestFree(t *testing.T) {
	if n := Free(table.New(), nil); n != most-16 {
		t.Errorf("%d", n)
	}
	x := sample(t)
	before := x.Bytes()
	for _, r := range rows() {
		if n := Free(x, at(r.text)); n != r.free {
			t.Errorf("%q: %d, not %d", r.text, n, r.free)
		}
	}
	if n := Free(x, []int{}); n != most-1412 {
		t.Errorf("%d", n)
	}
	checkSame(t, "Free", x, before)
}

func TestFreeNothing(t *testing.T) {
	x := sample(t)
	for _, p := range missing() {
		if n := Free(x, p); n != -1 {
			t.Errorf("%v: %d", p, n)
		}
	}
	// An object that was there.
	x.Remove([]int{0})
	for _, text := range []string{"0", "0.0", "0.0.0.0", "0.1", "0.2"} {
		if n := Free(x, at(text)); n != -1 {
			t.Errorf("%q: %d", text, n)
		}
	}
}

// What is free follows each change of the object and of its kids.
func TestFreeFollows(t *testing.T) {
	x := sample(t)
	check := func(what, text string, want int) {
		t.Helper()
		if n := Free(x, at(text)); n != want {
			t.Errorf("after %s, %q: %d, not %d", what, text, n, want)
		}
	}
	x.Set(at("0.2"), segment(10))
	check("Set", "0.2", 14)
	check("Set", "0", 244)
	x.Allot(at("0.2"), 50)
	check("Allot", "0.2", 24)
	check("Allot", "0", 234)
	Move(x, at("0.2"), 30)
	check("Move", "0.2", 54)
	check("Move", "0", 204)
	x.Add(at("0"), box(), 204)
	check("Add", "0", 0)
	check("Add", "0.3", 188)
	Shift(x, at("0.2"), at("0.3"), 50)
	check("Shift", "0.2", 4)
	check("Shift", "0.3", 238)
	check("Shift", "0", 0)
	x.Remove(at("0.2"))
	check("Remove", "0", 30)
	check("Remove", "0.2", -1)
	x.Remove(at("0"))
	check("Remove", "", most-412)
}

func TestMove(t *testing.T) {
	for _, s := range []struct {
		text string
		n    int
		e    api.Errno
	}{
		{"0.2", 0, api.OK}, {"0.2", 1, api.OK}, {"0.2", -1, api.OK},
		{"0.2", -20, api.OK}, {"0.2", -21, api.ErrQuota}, // to the usage, and one below it
		{"0.2", 244, api.OK}, {"0.2", 245, api.ErrQuota}, // what the container has, and one beyond it
		{"0.2", -40, api.ErrQuota}, {"0.2", -41, api.ErrQuota}, // to 0 and to -1
		{"0.2", most - 40, api.ErrQuota}, {"0.2", most - 39, api.ErrQuota}, // to MostQuota and one beyond it
		{"0.2", most, api.ErrQuota}, {"0.2", -most, api.ErrQuota},
		{"0.2", most + 1, api.ErrArg}, {"0.2", -most - 1, api.ErrArg}, {"0.2", math.MaxInt, api.ErrArg}, {"0.2", math.MinInt, api.ErrArg},
		{"0", 0, api.OK}, {"0", -244, api.OK}, {"0", -245, api.ErrQuota}, {"0", most - 1412, api.OK}, {"0", most - 1411, api.ErrQuota},
		{"0", -1000, api.ErrQuota}, {"0", -1001, api.ErrQuota}, {"0", most - 1000, api.ErrQuota}, {"0", most - 999, api.ErrQuota},
		{"0.0", 244, api.OK}, {"0.0", -384, api.OK}, {"0.0", -385, api.ErrQuota},
		{"0.0.0", 384, api.OK}, {"0.0.0", 385, api.ErrQuota}, {"0.0.0", -18, api.OK}, {"0.0.0", -19, api.ErrQuota},
		{"0.0.0.0", 0, api.OK}, {"0.0.0.0", -1, api.ErrQuota}, {"0.0.0.0", 18, api.OK}, {"0.0.0.0", 19, api.ErrQuota},
		{"0.1", -184, api.OK}, {"0.1", -185, api.ErrQuota}, {"0.1", 244, api.OK}, {"0.1", 245, api.ErrQuota},
		{"1", -11, api.OK}, {"1", -12, api.ErrQuota}, {"2", -36, api.OK}, {"2", -37, api.ErrQuota},
		{"3", -50, api.OK}, {"3", -51, api.ErrQuota}, {"4", -56, api.OK}, {"4", -57, api.ErrQuota},
		{"1", 500, api.OK}, {"2", 500, api.OK}, {"3", 500, api.OK}, {"4", most - 1412, api.OK}, {"4", most - 1411, api.ErrQuota},
		{"10", 0, api.OK}, {"10", 1, api.OK}, {"10", -1, api.ErrQuota}, // all of it is given to its kids
		{"10.2", 0, api.OK}, {"10.2", 1, api.ErrQuota}, {"10.2", -8, api.OK}, {"10.2", -9, api.ErrQuota},
		{"10.10", 0, api.OK}, {"10.10", 1, api.ErrQuota}, {"10.10", -1, api.ErrQuota},
		// The root has no container.
		{"", 0, api.ErrArg}, {"", 1, api.ErrArg}, {"", -1, api.ErrArg}, {"", most, api.ErrArg}, {"", -most, api.ErrArg}, {"", most + 1, api.ErrArg}, {"", math.MinInt, api.ErrArg},
	} {
		x := sample(t)
		checkMove(t, x, at(s.text), s.n, s.e)
		if s.e == api.OK && x.Quota(at(s.text)) != modelOf(sample(t))[s.text].quota+s.n {
			t.Errorf("%q by %d has %d", s.text, s.n, x.Quota(at(s.text)))
		}
	}
}

// Where no object is, that is said whatever the number is; a number that is wrong comes before what it would do.
func TestMoveErrors(t *testing.T) {
	numbers := append(wrong(-most), 0, 1, -1, most, -most)
	for _, p := range missing() {
		for _, n := range numbers {
			checkMove(t, sample(t), p, n, api.ErrName)
		}
	}
	for _, n := range numbers {
		checkMove(t, sample(t), nil, n, api.ErrArg)
		checkMove(t, sample(t), []int{}, n, api.ErrArg)
	}
	for _, r := range rows()[1:] {
		for _, n := range wrong(-most) {
			checkMove(t, sample(t), at(r.text), n, api.ErrArg)
		}
	}
}

// An object gets all that its container has, but never as much as MostQuota.
func TestMoveMost(t *testing.T) {
	x := made(t, map[string]api.Object{"": box(kid(0, 2, 16)), "0": segment(0)})
	checkMove(t, x, at("0"), most-31, api.ErrQuota)
	checkMove(t, x, at("0"), most-16, api.ErrQuota)
	checkMove(t, x, at("0"), most-15, api.ErrQuota)
	checkMove(t, x, at("0"), most-32, api.OK)
	if x.Quota(at("0")) != most-16 || Free(x, nil) != 0 || Free(x, at("0")) != most-32 {
		t.Errorf("%v", Ledger(x))
	}
	checkMove(t, x, at("0"), -most, api.ErrQuota)
	checkMove(t, x, at("0"), -most+16, api.ErrQuota)
	checkMove(t, x, at("0"), -most+31, api.ErrQuota)
	checkMove(t, x, at("0"), -most+32, api.OK)
	if x.Quota(at("0")) != 16 {
		t.Errorf("%v", Ledger(x))
	}
}

// Move does as Allot does with the quota plus n.
func TestMoveIsAllot(t *testing.T) {
	for _, r := range rows()[1:] {
		for n := -r.quota; n <= 600; n += 7 {
			x, y := sample(t), sample(t)
			e, f := Move(x, at(r.text), n), y.Allot(at(r.text), r.quota+n)
			if e != f || !bytes.Equal(x.Bytes(), y.Bytes()) {
				t.Errorf("%q by %d: %v, but Allot %v", r.text, n, e, f)
			}
		}
	}
}

// P10.2

func TestShift(t *testing.T) {
	for _, s := range []struct {
		from, to string
		n        int
		e        api.Errno
	}{
		// Between kids of one container, whether it has anything left or not.
		{"0.1", "0.2", 0, api.OK}, {"0.1", "0.2", 1, api.OK}, {"0.1", "0.2", 184, api.OK}, {"0.1", "0.2", 185, api.ErrQuota},
		{"0.0", "0.1", 384, api.OK}, {"0.0", "0.1", 385, api.ErrQuota}, {"0.2", "0.0", 20, api.OK}, {"0.2", "0.0", 21, api.ErrQuota},
		{"10.2", "10.10", 0, api.OK}, {"10.2", "10.10", 8, api.OK}, {"10.2", "10.10", 9, api.ErrQuota}, {"10.10", "10.2", 1, api.ErrQuota}, {"10.10", "10.2", 0, api.OK},
		{"1", "2", 11, api.OK}, {"2", "3", 36, api.OK}, {"3", "4", 50, api.OK}, {"4", "10", 56, api.OK}, {"4", "1", 57, api.ErrQuota},
		// Between containers: that of the second object has to have enough.
		{"0.1", "0.0.0", 184, api.OK}, {"0.0", "0.0.0.0", 19, api.ErrQuota}, {"0.0", "0.0.0.0", 18, api.OK}, {"0.1", "1", 184, api.OK},
		{"0.1", "10.2", 1, api.ErrQuota}, {"0.1", "10.2", 0, api.OK}, {"10.2", "0.2", 8, api.OK}, {"10.2", "0.2", 9, api.ErrQuota},
		{"1", "0.0.0.0", 11, api.OK}, {"2", "0.0.0.0", 18, api.OK}, {"2", "0.0.0.0", 19, api.ErrQuota}, {"4", "10.10", 1, api.ErrQuota},
		// To itself.
		{"0.2", "0.2", 0, api.OK}, {"0.2", "0.2", 20, api.OK}, {"0.2", "0.2", 21, api.ErrQuota}, {"10.2", "10.2", 8, api.OK}, {"10.2", "10.2", 9, api.ErrQuota},
		{"0", "0", 244, api.OK}, {"0", "0", 245, api.ErrQuota}, {"10", "10", 0, api.OK}, {"10", "10", 1, api.ErrQuota},
		// To its own container, and to the root.
		{"0.2", "0", 20, api.OK}, {"0.2", "0", 21, api.ErrQuota}, {"0.0.0", "0.0", 18, api.OK}, {"0.0.0", "0.0", 19, api.ErrQuota}, {"10.2", "10", 8, api.OK},
		{"0.0.0.0", "0.0.0", 0, api.OK}, {"0.0.0.0", "0.0.0", 1, api.ErrQuota}, {"0.0.0.0", "0", 1, api.ErrQuota}, {"0.0.0", "0", 18, api.OK},
		{"0", "", 0, api.ErrArg}, {"0", "", 5, api.ErrArg}, {"1", "", 11, api.ErrArg}, {"0.2", "", 20, api.ErrArg},
		// To its own kid: what it gives and what the kid gets are both its own.
		{"0", "0.2", 0, api.OK}, {"0", "0.2", 122, api.OK}, {"0", "0.2", 123, api.ErrQuota}, {"0", "0.2", 244, api.ErrQuota}, {"0", "0.2", 245, api.ErrQuota},
		{"0", "0.0.0", 244, api.OK}, {"0", "0.0.0", 245, api.ErrQuota}, {"0.0", "0.0.0", 192, api.OK}, {"0.0", "0.0.0", 193, api.ErrQuota}, {"10", "10.2", 0, api.OK}, {"10", "10.2", 1, api.ErrQuota},
		// From the root.
		{"", "0", 0, api.ErrArg}, {"", "0", 1, api.ErrArg}, {"", "", 0, api.ErrArg}, {"", "", most, api.ErrArg},
		// The most, and beyond it.
		{"0", "1", most, api.ErrQuota}, {"0", "0", most, api.ErrQuota}, {"0", "1", most + 1, api.ErrArg}, {"0", "1", -1, api.ErrArg}, {"0", "0", -1, api.ErrArg}, {"0", "0", most + 1, api.ErrArg},
		{"0", "1", math.MinInt, api.ErrArg}, {"0", "1", math.MaxInt, api.ErrArg}, {"0", "1", -most, api.ErrArg},
	} {
		x := sample(t)
		checkShift(t, x, at(s.from), at(s.to), s.n, s.e)
		was := modelOf(sample(t))
		n := s.n
		if s.e != api.OK || s.from == s.to {
			n = 0
		}
		if x.Quota(at(s.from)) != was[s.from].quota-n || x.Quota(at(s.to)) != was[s.to].quota+n {
			t.Errorf("%q to %q, %d: they have %d and %d", s.from, s.to, s.n, x.Quota(at(s.from)), x.Quota(at(s.to)))
		}
	}
}

// A number that is wrong comes first, then what the first object lacks, then what the second one does.
func TestShiftErrors(t *testing.T) {
	x := sample(t)
	for _, p := range missing() {
		for _, n := range wrong(0) {
			checkShift(t, x, p, at("1"), n, api.ErrArg)
			checkShift(t, x, at("1"), p, n, api.ErrArg)
			checkShift(t, x, p, p, n, api.ErrArg)
		}
		for _, n := range []int{0, 1, most} {
			checkShift(t, x, p, at("1"), n, api.ErrName)
			checkShift(t, x, p, nil, n, api.ErrName)
			checkShift(t, x, p, p, n, api.ErrName)
			checkShift(t, x, nil, p, n, api.ErrArg)
		}
		checkShift(t, x, at("0.2"), p, 0, api.ErrName)
		checkShift(t, x, at("0.2"), p, 20, api.ErrName)
		checkShift(t, x, at("0.2"), p, 21, api.ErrQuota)
		checkShift(t, x, at("0"), p, 244, api.ErrName)
		checkShift(t, x, at("0"), p, 245, api.ErrQuota)
		checkShift(t, x, at("10.2"), p, 8, api.ErrName) // its container had given all
		checkShift(t, x, at("10.2"), p, most, api.ErrQuota)
	}
	checkShift(t, x, at("0.2"), nil, 20, api.ErrArg)
	checkShift(t, x, at("0.2"), nil, 21, api.ErrQuota)
}

// The first Move makes the room that the second one needs.
func TestShiftMakesRoom(t *testing.T) {
	x := sample(t)
	checkMove(t, x, at("10.10"), 8, api.ErrQuota)
	checkShift(t, x, at("10.2"), at("10.10"), 8, api.OK)
	if Free(x, at("10")) != 0 || Free(x, at("10.2")) != 0 || Free(x, at("10.10")) != 8 {
		t.Errorf("%v", Ledger(x))
	}
	checkShift(t, x, at("10.10"), at("10.2"), 8, api.OK)
	// The same where the root has given all.
	checkMove(t, x, at("0"), most-1412, api.OK)
	checkMove(t, x, at("1"), 1, api.ErrQuota)
	checkShift(t, x, at("3"), at("1"), 50, api.OK)
	checkShift(t, x, at("4"), at("10"), 56, api.OK)
	if Free(x, nil) != 0 || Free(x, at("1")) != 61 || Free(x, at("10")) != 56 {
		t.Errorf("%v", Ledger(x))
	}
	// What a kid gives makes room in its container, but none in that one's own.
	checkShift(t, x, at("10.2"), at("10"), 8, api.ErrQuota)
	checkShift(t, x, at("10.2"), at("10"), 0, api.OK)
}

// What went there may come back, and then all is as before.
func TestShiftBack(t *testing.T) {
	x := sample(t)
	before := x.Bytes()
	for _, s := range []struct {
		from, to string
		n        int
	}{{"0.1", "0.2", 184}, {"0.2", "0", 20}, {"0.1", "0.0.0.0", 18}, {"1", "0.2", 11}, {"0", "10", 244}} {
		checkShift(t, x, at(s.from), at(s.to), s.n, api.OK)
		if bytes.Equal(x.Bytes(), before) {
			t.Errorf("%q to %q: nothing has changed", s.from, s.to)
		}
		checkShift(t, x, at(s.to), at(s.from), s.n, api.OK)
		checkSame(t, s.from, x, before)
	}
}

// All objects of the sample, and some that are not there, with each other.
func TestShiftAll(t *testing.T) {
	places := append(missing()[:3], []int{-1})
	for _, r := range rows() {
		places = append(places, at(r.text))
	}
	found := map[api.Errno]int{}
	for _, from := range places {
		for _, to := range places {
			for _, n := range []int{0, 1, 8, 9, 11, 12, 18, 19, 20, 36, 50, 56, 92, 122, 184, 192, 244, 384, most - 1412, most - 1411, most} {
				x := sample(t)
				m := modelOf(x)
				e := m.shift(path.Text(from), path.Text(to), n)
				checkShift(t, x, from, to, n, e)
				found[e]++
			}
		}
	}
	for _, e := range []api.Errno{api.OK, api.ErrName, api.ErrArg, api.ErrQuota} {
		if found[e] < 100 {
			t.Errorf("%v: %d times", e, found[e])
		}
	}
}

// P10.3

func TestLedger(t *testing.T) {
	if l := Ledger(table.New()); len(l) != 1 || len(l[0].Path) != 0 || l[0].Quota != most || l[0].Uses != 16 || l[0].Below != 0 {
		t.Errorf("%v", l)
	}
	x := sample(t)
	before := x.Bytes()
	if l := Ledger(x); !sameLines(l, lines(rows())) {
		t.Errorf("%v", l)
	}
	checkSame(t, "Ledger", x, before)
}

// What is moved is seen in the lines of the object, and of its container and of that one's own.
func TestLedgerFollows(t *testing.T) {
	x := sample(t)
	checkMove(t, x, at("0.0.0"), 100, api.OK)
	checkShift(t, x, at("0.1"), at("1"), 84, api.OK)
	x.Remove(at("10.2"))
	l := rows()
	l[0].uses, l[0].below = 1412+84, 999-84-40 // 1 may use 84 more; 0 uses 84 less, and 10 uses 40 less
	l[1].uses, l[1].below = 756-84, 152+100
	l[2].uses = 116 + 100
	l[3].quota = 200
	l[5].quota = 116
	l[7].quota = 114
	l[11].uses, l[11].below = 56, 40
	l = slices.Delete(l, 12, 13)
	if got := Ledger(x); !sameLines(got, lines(l)) {
		t.Errorf("%v, not %v", got, lines(l))
	}
}

func TestDeep(t *testing.T) {
	if n := Deep(table.New(), nil); n != 16 {
		t.Errorf("%d", n)
	}
	x := sample(t)
	before := x.Bytes()
	for _, r := range rows() {
		if n := Deep(x, at(r.text)); n != r.deep {
			t.Errorf("%q: %d, not %d", r.text, n, r.deep)
		}
	}
	for _, p := range missing() {
		if n := Deep(x, p); n != 0 {
			t.Errorf("%v: %d", p, n)
		}
	}
	checkSame(t, "Deep", x, before)
}

// Quotas that are moved are not used.
func TestDeepWithoutQuotas(t *testing.T) {
	x := sample(t)
	checkMove(t, x, at("0"), 5000, api.OK)
	checkMove(t, x, at("0.0"), 2000, api.OK)
	checkMove(t, x, at("0.0.0"), 1000, api.OK)
	checkShift(t, x, at("0.1"), at("0.0.0.0"), 100, api.OK)
	for _, r := range rows() {
		if n := Deep(x, at(r.text)); n != r.deep {
			t.Errorf("%q: %d, not %d", r.text, n, r.deep)
		}
	}
	x.Set(at("0.0.0.0"), secret(segment(51), 3))
	for text, want := range map[string]int{"": 402, "0": 151, "0.0": 99, "0.0.0": 83, "0.0.0.0": 67, "0.1": 16} {
		if n := Deep(x, at(text)); n != want {
			t.Errorf("%q: %d, not %d", text, n, want)
		}
	}
}

// A path of six numbers, with containers down to the last one.
func TestDeepest(t *testing.T) {
	objects := map[string]api.Object{}
	for i := range 6 {
		objects[path.Text(make([]int, i))] = box(kid(0, 1, 2000-100*i))
	}
	objects["0.0.0.0.0.0"] = box()
	x := made(t, objects)
	for i := range 7 {
		p := make([]int, i)
		if n := Deep(x, p); n != 16*(7-i) {
			t.Errorf("%d: %d", i, n)
		}
	}
	l := Ledger(x)
	if len(l) != 7 || l[6].Quota != 1500 || l[6].Uses != 16 || l[6].Below != 0 || l[5].Below != 16 || l[4].Below != 1516 || Free(x, make([]int, 6)) != 1484 {
		t.Errorf("%v", l)
	}
	checkShift(t, x, make([]int, 6), make([]int, 5), 84, api.OK)
	checkMove(t, x, make([]int, 7), 1, api.ErrName)
}

// P10.4

// checkLedger checks all that the functions tell of a table against its model, and what always holds of it.
func checkLedger(t *testing.T, x *table.Table) {
	t.Helper()
	m := modelOf(x)
	want := m.ledger()
	got := Ledger(x)
	if !sameLines(got, want) {
		t.Fatalf("%v, not %v", got, want)
	}
	for _, l := range want {
		free, deep := Free(x, l.Path), Deep(x, l.Path)
		if free != l.Quota-l.Uses || deep != m.deep(path.Text(l.Path)) {
			t.Fatalf("%v: %d %d", l, free, deep)
		}
		if free < 0 || deep > l.Quota {
			t.Fatalf("%v: %d are free, and %d used", l, free, deep)
		}
	}
}

// randomObject returns an object to be added.
func randomObject(r *rand.Rand) api.Object {
	switch r.Intn(7) {
	case 0:
		return segment(r.Intn(40))
	case 1:
		return thread(r.Intn(4))
	case 2:
		return gate()
	case 3:
		return space(r.Intn(4))
	}
	return box()
}

// randomPlace returns the path of an object, mostly.
func randomPlace(r *rand.Rand, x *table.Table) []int {
	if r.Intn(20) == 0 {
		return missing()[r.Intn(len(missing()))]
	}
	l := x.Paths()
	return l[r.Intn(len(l))]
}

// randomNumber returns what is mostly near the free space of the object.
func randomNumber(r *rand.Rand, x *table.Table, p []int) int {
	switch r.Intn(12) {
	case 0:
		l := append(wrong(-most), most, -most)
		return l[r.Intn(len(l))]
	case 1:
		return 0
	case 2:
		return r.Intn(2*most) - most
	}
	free := Free(x, p)
	return []int{free, free + 1, free - 1, free / 2, 1, r.Intn(30)}[r.Intn(6)]
}

// kin reports whether two objects are kids of one container.
func kin(p, q []int) bool {
	a, _, ok := path.Parent(p)
	b, _, also := path.Parent(q)
	return ok && also && slices.Equal(a, b)
}

// one performs a random call, checks it, and returns its name with its error.
func one(t *testing.T, r *rand.Rand, x *table.Table) (string, api.Errno) {
	t.Helper()
	m := modelOf(x)
	p, q := randomPlace(r, x), randomPlace(r, x)
	switch r.Intn(8) {
	case 0, 1:
		o := randomObject(r)
		_, e := x.Add(p, o, table.Uses(o)+r.Intn(2000))
		return "Add", e
	case 2:
		if o, _ := x.Get(p); r.Intn(3) > 0 && (len(p) < 2 || o.Kind == api.Container) {
			return "Remove", api.ErrArg // not so often nearly all of the table
		}
		_, e := x.Remove(p)
		return "Remove", e
	case 3, 4:
		n := randomNumber(r, x, p) * (1 - 2*r.Intn(2))
		e := m.move(path.Text(p), n)
		checkMove(t, x, p, n, e)
		return "Move", e
	}
	n := randomNumber(r, x, p)
	above, _, _ := path.Parent(p)
	before, _ := x.Get(above)
	e := m.shift(path.Text(p), path.Text(q), n)
	checkShift(t, x, p, q, n, e)
	after, _ := x.Get(above)
	if kin(p, q) && table.Uses(before) != table.Uses(after) {
		t.Errorf("%v to %v, %d: %v uses another number", p, q, n, above)
	}
	if e == api.OK && kin(p, q) && n > 0 {
		return "Shift of kin", e
	}
	return "Shift", e
}

func TestRandom(t *testing.T) {
	found := map[string]int{}
	for seed := range int64(20) {
		r := rand.New(rand.NewSource(seed))
		x := sample(t)
		if seed%4 == 0 {
			x = table.New()
		}
		for i := range 400 {
			name, e := one(t, r, x)
			found[name+" "+strconv.Itoa(int(e))]++
			if i%5 == 0 {
				checkLedger(t, x)
			}
			if t.Failed() {
				t.Fatalf("seed %d, step %d", seed, i)
			}
		}
		checkLedger(t, x)
	}
	for _, what := range []string{"Move 0", "Move 2", "Move 30", "Move 33", "Shift 0", "Shift 2", "Shift 30", "Shift 33", "Shift of kin 0"} {
		if found[what] < 40 {
			t.Errorf("%s: %d times", what, found[what])
		}
	}
}

// The usage of a container does not change when its kids shift what they have, nor does anything above it.
func TestShiftOfKin(t *testing.T) {
	for _, s := range [][2]string{{"0.1", "0.2"}, {"0.0", "0.1"}, {"0.2", "0.0"}, {"10.2", "10.10"}, {"1", "2"}, {"2", "0"}, {"0", "10"}, {"0.1", "0.1"}} {
		x := sample(t)
		from := at(s[0])
		checkShift(t, x, from, at(s[1]), Free(x, from), api.OK)
		if above, _, _ := path.Parent(from); Free(x, above) != Free(sample(t), above) {
			t.Errorf("%v: %d are free", s, Free(x, above))
		}
		checkLedger(t, x)
	}
}

// fill puts n objects into objects, one at p and the others below it, each with the quota that is just enough.
func fill(objects map[string]api.Object, p []int, n int) {
	o := box()
	for rest := n - 1; rest > 0; o.Next++ {
		share := (rest + 15 - o.Next) / (16 - o.Next)
		o.Kids = append(o.Kids, kid(o.Next, 1, 16*share))
		fill(objects, append(slices.Clone(p), o.Next), share)
		rest -= share
	}
	objects[path.Text(p)] = o
}

// With the most objects that a table can have nothing is free anywhere, and all is used.
func TestMostObjects(t *testing.T) {
	objects := map[string]api.Object{}
	fill(objects, nil, 65536)
	x := made(t, objects)
	l := Ledger(x)
	if len(l) != 65536 {
		t.Fatalf("%d lines", len(l))
	}
	for i, line := range l {
		if line.Uses != line.Quota || line.Below != line.Uses-16 || i > 0 && slices.Compare(l[i-1].Path, line.Path) >= 0 {
			t.Fatalf("%v", line)
		}
	}
	if Deep(x, nil) != most || Free(x, nil) != 0 || Deep(x, []int{3}) != x.Quota([]int{3}) {
		t.Errorf("%d %d", Deep(x, nil), Free(x, nil))
	}
	before := x.Bytes()
	for _, n := range []int{1, -1} {
		if e := Move(x, []int{3, 3}, n); e != api.ErrQuota {
			t.Errorf("%v", e)
		}
	}
	if e := Shift(x, []int{3}, []int{4}, 1); e != api.ErrQuota {
		t.Errorf("%v", e)
	}
	checkSame(t, "the most", x, before)
}

// Nil tables

func TestNilTable(t *testing.T) {
	places := append(missing(), nil, []int{}, []int{0})
	for _, p := range places {
		if n := Free(nil, p); n != -1 {
			t.Errorf("%v: %d", p, n)
		}
		if n := Deep(nil, p); n != 0 {
			t.Errorf("%v: %d", p, n)
		}
		for _, n := range append(wrong(-most), 0, 1, -1, most, -most) {
			if e := Move(nil, p, n); e != api.ErrNil {
				t.Errorf("%v by %d: %v", p, n, e)
			}
			for _, q := range places {
				if e := Shift(nil, p, q, n); e != api.ErrNil {
					t.Errorf("%v to %v, %d: %v", p, q, n, e)
				}
			}
		}
	}
	if l := Ledger(nil); len(l) != 0 {
		t.Errorf("%v", l)
	}
}

// Rules of all layers

// spare returns a copy of p with spare capacity, in which there are two more numbers.
func spare(p []int) []int {
	return append(slices.Clone(p), 77, 78)[: len(p) : len(p)+2]
}

// intact reports whether q, which was spare(p), still is, with its spare capacity.
func intact(q, p []int) bool {
	return slices.Equal(q[:len(p)+2], append(slices.Clone(p), 77, 78))
}

func TestArgumentsStay(t *testing.T) {
	places := append(missing(), nil)
	for _, r := range rows() {
		places = append(places, at(r.text))
	}
	for _, p := range places {
		for _, q := range places {
			x := sample(t)
			from, to := spare(p), spare(q)
			Free(x, from)
			Deep(x, from)
			Move(x, from, 3)
			Move(x, from, -3)
			for _, n := range []int{-1, 0, 3, 1000} {
				Shift(x, from, to, n)
			}
			if !intact(from, p) || !intact(to, q) {
				t.Errorf("%v and %v were changed to %v and %v", p, q, from[:cap(from)], to[:cap(to)])
			}
			before := x.Bytes()
			over(from)
			over(to)
			checkSame(t, "the arguments", x, before)
		}
	}
}

// Both arguments may be one list.
func TestOneListTwice(t *testing.T) {
	x := sample(t)
	p := spare([]int{0, 2, 5})
	if e := Shift(x, p[:2], p[:2], 20); e != api.OK || !intact(p, []int{0, 2, 5}) {
		t.Errorf("%v %v", e, p)
	}
	if e := Shift(x, p[:2], p[:1], 20); e != api.OK || !intact(p, []int{0, 2, 5}) || Free(x, p[:1]) != 244+20+20 {
		t.Errorf("%v %v", e, p)
	}
}

// over writes over a list, with its spare capacity.
func over(p []int) {
	p = p[:cap(p)]
	for i := range p {
		p[i] = 99
	}
}

func TestResultsAreNew(t *testing.T) {
	x := sample(t)
	before := x.Bytes()
	want := lines(rows())
	first, second := Ledger(x), Ledger(x)
	// No path has anything of another one, or of another ledger.
	for i := range first {
		over(first[i].Path)
		for j := range first {
			if j > i && !slices.Equal(first[j].Path, want[j].Path) {
				t.Errorf("the paths %v and %v share memory", want[i].Path, want[j].Path)
			}
		}
		first[i] = api.Line{}
	}
	if !sameLines(second, want) || !sameLines(Ledger(x), want) {
		t.Errorf("two ledgers share memory")
	}
	checkSame(t, "the results", x, before)
	// What was told before stays, whatever is done.
	r := rand.New(rand.NewSource(9))
	for range 200 {
		one(t, r, x)
	}
	x.Remove([]int{0})
	Ledger(x)
	if bytes.Equal(x.Bytes(), before) || !sameLines(second, want) {
		t.Errorf("%v", second)
	}
	for i := range second {
		_ = append(second[i].Path, 99)
	}
	if !sameLines(second, want) {
		t.Errorf("%v", second)
	}
}

// What the functions return depends on the table alone, not on how it became what it is.
func TestSameTableSameResults(t *testing.T) {
	x := sample(t)
	r := rand.New(rand.NewSource(10))
	for range 300 {
		one(t, r, x)
	}
	y, e := table.Load(x.Bytes())
	if e != api.OK {
		t.Fatalf("%v", e)
	}
	for _, z := range []*table.Table{y, x.Clone()} {
		if !reflect.DeepEqual(Ledger(x), Ledger(z)) {
			t.Errorf("%v, not %v", Ledger(z), Ledger(x))
		}
		for _, p := range x.Paths() {
			if Free(x, p) != Free(z, p) || Deep(x, p) != Deep(z, p) {
				t.Errorf("%v: %d %d", p, Free(z, p), Deep(z, p))
			}
		}
	}
	// A clone goes its own way.
	z := x.Clone()
	before := x.Bytes()
	for range 100 {
		one(t, r, z)
	}
	checkSame(t, "the clone", x, before)
}

// Lists of great length end too.
func TestLong(t *testing.T) {
	x := sample(t)
	before := x.Bytes()
	p := make([]int, 1<<20)
	if Free(x, p) != -1 || Deep(x, p) != 0 || Move(x, p, 1) != api.ErrName || Shift(x, p, p, 1) != api.ErrName || Shift(x, at("0.2"), p, 1) != api.ErrName {
		t.Errorf("a long list is there")
	}
	checkSame(t, "long", x, before)
}
