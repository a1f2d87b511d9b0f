package look

import (
	"bytes"
	"math"
	"math/rand"
	"reflect"
	"slices"
	"strconv"
	"strings"
	"testing"

	"regency/api"
	"regency/label"
	"regency/owns"
	"regency/path"
	"regency/table"
)

const most = 1 << 20 // MostNumber, and MostQuota

// at returns the path with this text.
func at(text string) []int {
	p, ok := path.Parse(text)
	if !ok {
		panic(text)
	}
	return p
}

// lb returns the label of these entries, such as "1/0=3,2/0=0", in this order, whatever they are.
func lb(text string) api.Label {
	if text == "" {
		return nil
	}
	var l api.Label
	for _, part := range strings.Split(text, ",") {
		cat, level, _ := strings.Cut(part, "=")
		n, err := strconv.Atoi(level)
		if err != nil {
			panic(text)
		}
		l = append(l, api.Entry{Cat: cat, Level: n})
	}
	return l
}

// viewOf returns the view with this label and this ownership, such as "1/0 2/0".
func viewOf(label, own string) api.View {
	return api.View{Path: []int{7}, Label: lb(label), Own: strings.Fields(own)}
}

// box returns a container with these kids.
func box(kids ...api.Kid) api.Object {
	o := api.Object{Kind: api.Container, Kids: kids}
	for _, k := range kids {
		o.Next = k.N + 1
	}
	return o
}

// kid returns a kid of a container.
func kid(n, kind, quota int) api.Kid {
	return api.Kid{N: n, Kind: kind, Quota: quota}
}

// segment returns a segment of these bytes.
func segment(text string) api.Object {
	return api.Object{Kind: api.Segment, Bytes: []byte(text)}
}

// space returns a space with maps such as "0:1.2 5:3".
func space(maps string) api.Object {
	o := api.Object{Kind: api.Space}
	for i, m := range strings.Fields(maps) {
		from, seg, _ := strings.Cut(m, ":")
		n, err := strconv.Atoi(from)
		if err != nil {
			panic(maps)
		}
		o.Maps = append(o.Maps, api.Map{At: n, Seg: at(seg), Write: i%2 == 1})
	}
	return o
}

// labelled returns o with this label.
func labelled(o api.Object, label string) api.Object {
	o.Label = lb(label)
	return o
}

// each returns an object of each Kind, with all that it may have but kids.
func each() []api.Object {
	return []api.Object{
		{Kind: api.Container, Next: 3},
		segment("hidden"),
		{Kind: api.Thread, Own: []string{"1/0", "4/0"}, Cats: 3},
		{Kind: api.Gate, Own: []string{"4/0"}, Entry: lb("2/0=2,3/0=3"), Ring: 5},
		space("0:1 9:0.2"),
	}
}

// made returns the table with these objects.
func made(t *testing.T, objects map[string]api.Object) *table.Table {
	t.Helper()
	x, e := table.Of(objects)
	if e != api.OK {
		t.Fatalf("%v: %v", objects, e)
	}
	return x
}

// objects returns those of the sample: of each Kind, for all and secret ones.
func objects() map[string]api.Object {
	return map[string]api.Object{
		"":      box(kid(0, 1, 2000), kid(1, 2, 40), kid(2, 3, 60), kid(3, 4, 90), kid(4, 5, 120), kid(5, 1, 600), kid(6, 3, 50), kid(8, 5, 112), kid(10, 2, 300), kid(11, 2, 16)),
		"0":     labelled(box(kid(0, 1, 500), kid(1, 2, 70), kid(2, 3, 80), kid(3, 4, 90), kid(4, 5, 100)), "1/0=3"),
		"0.0":   labelled(box(kid(7, 2, 30)), "1/0=3,2/0=2"),
		"0.0.7": labelled(segment("deep"), "1/0=3,2/0=2"),
		"0.1":   labelled(segment("hidden"), "1/0=3"),
		"0.2":   labelled(api.Object{Kind: api.Thread, Own: []string{"2/0"}, Cats: 9}, "1/0=3"),
		"0.3":   labelled(api.Object{Kind: api.Gate, Ring: 8}, "1/0=3"),
		"0.4":   labelled(space("3:1"), "1/0=3"),
		"1":     segment("for all"),
		"2":     {Kind: api.Thread, Own: []string{"1/0", "10/0"}, Cats: 2},
		"3":     {Kind: api.Gate, Own: []string{"1/0"}, Entry: lb("1/0=3"), Ring: 5},
		"4":     space("0:1 100:0.1 200:9 300:2"),
		"5":     box(kid(3, 1, 100), kid(20, 2, 50)),
		"5.3":   box(),
		"5.20":  labelled(segment("secret"), "1/0=3"),
		"6":     labelled(api.Object{Kind: api.Thread}, "1/0=3"),
		"8":     space("10:10 20:0.0.7 30:5 40:11"),
		"10":    segment(strings.Repeat("0123456789abcdef", 16)),
		"11":    segment(""),
	}
}

// sample returns the table with these objects.
func sample(t *testing.T) *table.Table {
	t.Helper()
	return made(t, objects())
}

// texts returns the texts of the paths of the sample, in order.
func texts() []string {
	return []string{"", "0", "0.0", "0.0.7", "0.1", "0.2", "0.3", "0.4", "1", "2", "3", "4", "5", "5.3", "5.20", "6", "8", "10", "11"}
}

// missing returns paths of no object of the sample that lead through nothing secret, and lists that are not paths.
func missing() [][]int {
	return [][]int{
		{7}, {9}, {12}, {most}, {5, 0}, {5, 3, 0}, {5, 4, 0}, {1, 0}, {2, 0}, {3, 5}, {4, 0, 0}, {5, 20, 0}, {9, 0, 0, 0, 0, 0},
		{-1}, {5, -1}, {most + 1}, {math.MinInt}, {math.MaxInt}, {5, 3, math.MaxInt}, {-1, 0}, {1, 1, 1, 1, 1, 1, 1}, {7, 0, 0, 0, 0, 0, 0, 0},
	}
}

// wrongLabels returns labels that are not valid.
func wrongLabels() []api.Label {
	return []api.Label{
		lb("1/0=1"), lb("1/0=4"), lb("1/0=-1"), lb("x=2"), lb("=2"), lb("2/0=3,1/0=3"), lb("1/0=3,1/0=3"), lb("1/0=3,2/0=3,3/0=3,4/0=3,5/0=3,6/0=3,7/0=3,8/0=3,9/0=3"),
	}
}

// wrongOwns returns lists that are not ownerships.
func wrongOwns() [][]string {
	return [][]string{{"x"}, {""}, {"1/0", ""}, {"2/0", "1/0"}, {"10/0", "2/0"}, {"1/0", "1/0"}, strings.Fields("1/0 2/0 3/0 4/0 5/0 6/0 7/0 8/0 9/0")}
}

// wrongViews returns views that see nothing, because their label or their ownership is not valid.
func wrongViews() []api.View {
	var l []api.View
	for _, bad := range wrongLabels() {
		l = append(l, api.View{Label: bad}, api.View{Label: bad, Own: []string{"1/0"}})
	}
	for _, bad := range wrongOwns() {
		l = append(l, api.View{Own: bad}, api.View{Label: lb("1/0=3"), Own: bad})
	}
	return l
}

// plainViews returns views that see all that has no label, and nothing that has 1/0=3.
func plainViews() []api.View {
	return []api.View{{}, {Path: []int{-5}, Label: api.Label{}, Own: []string{}}, viewOf("2/0=3", ""), viewOf("1/0=2", ""), viewOf("", "2/0"), viewOf("3/0=2", "10/0")}
}

// highViews returns views that see what has no label, and what has 1/0=3.
func highViews() []api.View {
	return []api.View{viewOf("1/0=3", ""), viewOf("", "1/0"), viewOf("1/0=3,2/0=2", ""), viewOf("1/0=0", "1/0"), viewOf("1/0=2", "1/0 2/0"), viewOf("1/0=3", "2/0")}
}

// numbers returns places and lengths that are not of the usual.
func numbers() []int {
	return []int{-1, 0, 1, -2, 1000, 1 << 40, math.MaxInt, math.MaxInt - 1, math.MinInt, math.MinInt + 1}
}

// kinds returns all Kinds, and what is none.
func kinds() []int {
	return []int{0, 1, 2, 3, 4, 5, 6, 7, -1, math.MaxInt, math.MinInt}
}

// zeros returns a path of n numbers.
func zeros(n int) []int {
	return make([]int, n)
}

// tower returns a table with containers of these labels within one another, from the root on, and in the last of them end. All numbers are 0.
func tower(t *testing.T, end api.Object, labels ...string) *table.Table {
	t.Helper()
	m := map[string]api.Object{path.Text(zeros(len(labels))): end}
	for i, l := range labels {
		kind := api.Container
		if i == len(labels)-1 {
			kind = end.Kind
		}
		m[path.Text(zeros(i))] = labelled(box(kid(0, kind, 2000-200*i)), l)
	}
	return made(t, m)
}

// rising returns n labels, of which those from the one with the number secret on are secret.
func rising(n, secret int) []string {
	l := make([]string, n)
	for i := max(0, secret); i < n; i++ {
		l[i] = "1/0=3"
	}
	return l
}

// sameObject reports whether a and b are equal, where nil and empty lists are.
func sameObject(a, b api.Object) bool {
	return reflect.DeepEqual(tidy(a), tidy(b))
}

// tidy returns o without empty lists that are not nil.
func tidy(o api.Object) api.Object {
	o = table.Copy(o)
	if len(o.Label) == 0 {
		o.Label = nil
	}
	if len(o.Kids) == 0 {
		o.Kids = nil
	}
	if len(o.Bytes) == 0 {
		o.Bytes = nil
	}
	if len(o.Own) == 0 {
		o.Own = nil
	}
	if len(o.Entry) == 0 {
		o.Entry = nil
	}
	if len(o.Maps) == 0 {
		o.Maps = nil
	}
	for i, m := range o.Maps {
		if len(m.Seg) == 0 {
			o.Maps[i].Seg = nil
		}
	}
	return o
}

// sameView reports whether a and b are equal, where nil and empty lists are.
func sameView(a, b api.View) bool {
	return slices.Equal(a.Path, b.Path) && slices.Equal(a.Label, b.Label) && slices.Equal(a.Own, b.Own)
}

// sameReply reports whether a and b are equal, where nil and empty lists are.
func sameReply(a, b api.Reply) bool {
	return a.E == b.E && a.N == b.N && bytes.Equal(a.Text, b.Text) && a.Cat == b.Cat && slices.Equal(a.Label, b.Label) && slices.Equal(a.Kids, b.Kids)
}

// world has the objects of a table by the texts of their paths, and tells by the chapter's words what a view observes.
type world map[string]api.Object

// flows reports whether a flows to b under own. The categories are those of names.
func flows(a, b api.Label, own []string) bool {
	if !label.Right(a) || !label.Right(b) || !owns.Right(own) {
		return false
	}
	for _, cat := range names() {
		if label.Level(a, cat) > label.Level(b, cat) && !slices.Contains(own, cat) {
			return false
		}
	}
	return true
}

// object returns the object of a kind that is found (how 0), seen (1) or altered (2), or the error.
func (w world) object(v api.View, p []int, kind, how int) (api.Object, api.Errno) {
	for n := range p {
		o, ok := w[path.Text(p[:n])]
		if !ok || o.Kind != api.Container {
			return api.Object{}, api.ErrName
		}
		if !flows(o.Label, v.Label, v.Own) {
			return api.Object{}, api.ErrFlow
		}
	}
	o, ok := w[path.Text(p)]
	switch {
	case !ok:
		return api.Object{}, api.ErrName
	case how >= 1 && kind != 0 && kind != o.Kind:
		return api.Object{}, api.ErrKind
	case how >= 1 && !flows(o.Label, v.Label, v.Own), how >= 2 && !flows(v.Label, o.Label, v.Own):
		return api.Object{}, api.ErrFlow
	}
	return o, api.OK
}

// read is Read of the model.
func (w world) read(v api.View, p []int, from, n int) (string, api.Errno) {
	o, e := w.object(v, p, api.Segment, 1)
	if e != api.OK {
		return "", e
	}
	return part(string(o.Bytes), from, n)
}

// load is Load of the model.
func (w world) load(v api.View, p []int, from, n int) (string, api.Errno) {
	o, e := w.object(v, p, api.Space, 1)
	if e != api.OK {
		return "", e
	}
	found := -1
	for i, m := range o.Maps {
		if m.At <= from {
			found = i
		}
	}
	if found < 0 {
		return "", api.ErrRange
	}
	return w.read(v, o.Maps[found].Seg, from-o.Maps[found].At, n)
}

// names returns the categories of the random tests.
func names() []string {
	return strings.Fields("1/0 2/0 10/0")
}

// randomLabel returns a label of these categories.
func randomLabel(r *rand.Rand) api.Label {
	var l api.Label
	for _, cat := range names() {
		if level := []int{1, 1, 1, 1, 0, 2, 3}[r.Intn(7)]; level != 1 {
			l = append(l, api.Entry{Cat: cat, Level: level})
		}
	}
	return l
}

// randomOwn returns some of these categories.
func randomOwn(r *rand.Rand) []string {
	return slices.DeleteFunc(names(), func(string) bool { return r.Intn(2) == 0 })
}

// randomView returns a view, which is mostly valid.
func randomView(r *rand.Rand) api.View {
	if r.Intn(20) == 0 {
		l := wrongViews()
		return l[r.Intn(len(l))]
	}
	return api.View{Path: []int{r.Intn(3)}, Label: randomLabel(r), Own: randomOwn(r)}
}

// randomPath returns a path of an object of the table, or one near it.
func randomPath(r *rand.Rand, x *table.Table) []int {
	paths := x.Paths()
	p := paths[r.Intn(len(paths))]
	switch r.Intn(10) {
	case 0:
		return append(p, r.Intn(3))
	case 1:
		return append(p, r.Intn(3), r.Intn(3))
	case 2:
		if len(p) > 0 {
			p[r.Intn(len(p))] = r.Intn(4) - 1
		}
	}
	return p
}

// near returns a path as randomPath does, mostly of an object of this Kind.
func near(r *rand.Rand, x *table.Table, kind int) []int {
	for range 20 {
		p := randomPath(r, x)
		if o, _ := x.Get(p); o.Kind == kind {
			return p
		}
	}
	return randomPath(r, x)
}

// randomObject returns an object of any Kind without kids, which may be added somewhere.
func randomObject(r *rand.Rand, x *table.Table) api.Object {
	o := api.Object{Kind: []int{1, 1, 1, 2, 3, 4, 5}[r.Intn(7)], Label: randomLabel(r)}
	switch o.Kind {
	case api.Segment:
		o.Bytes = []byte("abcdefgh"[:r.Intn(9)])
	case api.Thread:
		o.Own, o.Cats = randomOwn(r), r.Intn(3)
	case api.Gate:
		o.Own, o.Entry, o.Ring = randomOwn(r), randomLabel(r), r.Intn(9)
	case api.Space:
		for from := range r.Intn(5) {
			if seg := near(r, x, api.Segment); path.Right(seg) {
				o.Maps = append(o.Maps, api.Map{At: 5 * from, Seg: seg, Write: r.Intn(2) == 0})
			}
		}
	}
	return o
}

// randomTable returns a table of many objects, and these by the texts of their paths.
func randomTable(r *rand.Rand) (*table.Table, world) {
	x := table.New()
	if r.Intn(2) == 0 {
		x.Set(nil, api.Object{Kind: api.Container, Label: randomLabel(r)})
	}
	for range 300 {
		p := randomPath(r, x)
		x.Add(p, randomObject(r, x), max(16, 60000>>(2*len(p))))
	}
	w := world{}
	for _, p := range x.Paths() {
		w[path.Text(p)], _ = x.Get(p)
	}
	return x, w
}

// A function that finds, sees or alters, with its name.
type getter struct {
	name string
	get  func(x *table.Table, v api.View, p []int, kind int) (api.Object, api.Errno)
}

// getters returns those of the package. Find has no kind.
func getters() []getter {
	find := func(x *table.Table, v api.View, p []int, kind int) (api.Object, api.Errno) { return Find(x, v, p) }
	return []getter{{"Find", find}, {"See", See}, {"Alter", Alter}}
}

// checkGet checks what one of them returns: want and OK, or the zero object and the error e.
func checkGet(t *testing.T, g getter, x *table.Table, v api.View, p []int, kind int, want api.Object, e api.Errno) {
	t.Helper()
	if e != api.OK {
		want = api.Object{}
	}
	o, f := g.get(x, v, p, kind)
	if f != e || !sameObject(o, want) {
		t.Errorf("%s of %v, kind %d, by %v: %v %v, not %v %v", g.name, p, kind, v, o, f, want, e)
	}
}

// checkAll checks Find, See and Alter with each kind, where none finds the object.
func checkAll(t *testing.T, x *table.Table, v api.View, p []int, e api.Errno) {
	t.Helper()
	before := x.Bytes()
	for _, g := range getters() {
		for _, kind := range kinds() {
			checkGet(t, g, x, v, p, kind, api.Object{}, e)
		}
	}
	checkTable(t, x, before)
}

// checkSeen checks Find, See and Alter with each kind of the object o, which is found: seen and altered are what See and Alter return where the kind is right.
func checkSeen(t *testing.T, x *table.Table, v api.View, p []int, o api.Object, seen, altered api.Errno) {
	t.Helper()
	before := x.Bytes()
	for _, kind := range kinds() {
		s, a := seen, altered
		if kind != 0 && kind != o.Kind {
			s, a = api.ErrKind, api.ErrKind
		}
		checkGet(t, getters()[0], x, v, p, kind, o, api.OK)
		checkGet(t, getters()[1], x, v, p, kind, o, s)
		checkGet(t, getters()[2], x, v, p, kind, o, a)
	}
	checkTable(t, x, before)
}

// checkTable checks that the table is what it was before.
func checkTable(t *testing.T, x *table.Table, before []byte) {
	t.Helper()
	if !bytes.Equal(x.Bytes(), before) {
		t.Errorf("the table has changed")
	}
}

// P13.1: Who

func TestWho(t *testing.T) {
	x := sample(t)
	before := x.Bytes()
	for text, want := range map[string]api.View{
		"2":   {Path: []int{2}, Own: []string{"1/0", "10/0"}},
		"6":   {Path: []int{6}, Label: lb("1/0=3")},
		"0.2": {Path: []int{0, 2}, Label: lb("1/0=3"), Own: []string{"2/0"}},
	} {
		if v, e := Who(x, at(text)); e != api.OK || !sameView(v, want) {
			t.Errorf("%q: %v %v, not %v", text, v, e, want)
		}
	}
	checkTable(t, x, before)
}

func TestWhoNothing(t *testing.T) {
	x := sample(t)
	places := append(missing(), []int{}, []int{0, 9}, []int{0, 2, 0}, []int{2, 2}, []int{6, 0})
	for _, text := range texts() {
		if o := objects()[text]; o.Kind != api.Thread {
			places = append(places, at(text))
		}
	}
	for _, p := range places {
		if v, e := Who(x, p); e != api.ErrName || !reflect.DeepEqual(v, api.View{}) {
			t.Errorf("%v: %v %v", p, v, e)
		}
	}
	// A thread that was there.
	x.Remove([]int{6})
	if v, e := Who(x, []int{6}); e != api.ErrName || !reflect.DeepEqual(v, api.View{}) {
		t.Errorf("%v %v", v, e)
	}
}

// The most that a thread may have, at the greatest depth.
func TestWhoMost(t *testing.T) {
	own := strings.Fields("1/0 2/0 3/0 4/0 5/0 6/0 7/0 8/0")
	l := lb("1/0=3,2/0=2,3/0=3,4/0=2,5/0=3,6/0=2,7/0=3,8/0=2")
	x := tower(t, api.Object{Kind: api.Thread, Label: l, Own: own, Cats: 1 << 16}, rising(6, 9)...)
	if v, e := Who(x, zeros(6)); e != api.OK || !sameView(v, api.View{Path: zeros(6), Label: l, Own: own}) {
		t.Errorf("%v %v", v, e)
	}
	for _, n := range []int{0, 1, 5, 7} {
		if v, e := Who(x, zeros(n)); e != api.ErrName || !reflect.DeepEqual(v, api.View{}) {
			t.Errorf("%d: %v %v", n, v, e)
		}
	}
}

// P13.1: Find, See and Alter

// A thread without entries and ownership does not see a segment with 1/0=3, as the chapter says.
func TestExample(t *testing.T) {
	x := made(t, map[string]api.Object{"": box(kid(0, 3, 16), kid(1, 2, 16)), "0": {Kind: api.Thread}, "1": labelled(segment(""), "1/0=3")})
	v, e := Who(x, []int{0})
	if e != api.OK {
		t.Fatalf("%v", e)
	}
	checkSeen(t, x, v, []int{1}, labelled(segment(""), "1/0=3"), api.ErrFlow, api.ErrFlow)
}

// Objects of each kind at each depth, in containers that are seen.
func TestFound(t *testing.T) {
	for depth := range 7 {
		for _, o := range each() {
			if depth == 0 && o.Kind != api.Container {
				continue
			}
			x := tower(t, o, rising(depth, 9)...)
			p := zeros(depth)
			for _, v := range []api.View{{}, viewOf("", "1/0"), viewOf("1/0=2", "1/0"), viewOf("1/0=0", "1/0")} {
				checkSeen(t, x, v, p, o, api.OK, api.OK)
			}
			for _, v := range []api.View{viewOf("1/0=3", ""), viewOf("1/0=3,2/0=2", "2/0"), viewOf("1/0=2", "2/0")} {
				checkSeen(t, x, v, p, o, api.OK, api.ErrFlow)
			}
			for _, v := range append(wrongViews(), viewOf("1/0=0", ""), viewOf("1/0=0,2/0=3", "2/0")) {
				if depth == 0 {
					// Nothing is on the way to the root.
					checkSeen(t, x, v, p, o, api.ErrFlow, api.ErrFlow)
					continue
				}
				checkAll(t, x, v, p, api.ErrFlow)
			}
		}
	}
}

// Where the object alone is secret, it is found, and its kind comes before its label.
func TestFoundNotSeen(t *testing.T) {
	for depth := range 7 {
		for _, o := range each() {
			if depth == 0 && o.Kind != api.Container {
				continue
			}
			o.Label = lb("1/0=3")
			x := tower(t, o, rising(depth, 9)...)
			p := zeros(depth)
			for _, v := range plainViews() {
				checkSeen(t, x, v, p, o, api.ErrFlow, api.ErrFlow)
			}
			checkSeen(t, x, viewOf("1/0=3", ""), p, o, api.OK, api.OK)
			checkSeen(t, x, viewOf("", "1/0"), p, o, api.OK, api.OK)
			checkSeen(t, x, viewOf("1/0=3,2/0=3", ""), p, o, api.OK, api.ErrFlow)
			checkSeen(t, x, viewOf("2/0=3", "1/0"), p, o, api.OK, api.ErrFlow)
			checkSeen(t, x, viewOf("2/0=3", "1/0 2/0"), p, o, api.OK, api.OK)
		}
	}
}

// Each container on the way is to be seen, whatever is at the end.
func TestWayNotSeen(t *testing.T) {
	for depth := 1; depth <= 6; depth++ {
		for from := range depth {
			for _, o := range each() {
				o.Label = lb("1/0=3")
				x := tower(t, o, rising(depth, from)...)
				for _, v := range append(plainViews(), wrongViews()[0], wrongViews()[17]) {
					checkAll(t, x, v, zeros(depth), api.ErrFlow)
				}
				checkSeen(t, x, viewOf("", "1/0"), zeros(depth), o, api.OK, api.OK)
				checkSeen(t, x, viewOf("1/0=3", ""), zeros(depth), o, api.OK, api.OK)
			}
		}
	}
}

// A way of which one container is missing: the first that is not seen before it decides.
func TestWayMissing(t *testing.T) {
	for last := range 7 {
		for secret := range last + 2 {
			end := box()
			if secret <= last {
				end.Label = lb("1/0=3")
			}
			x := tower(t, end, rising(last, secret)...)
			for depth := last + 1; depth <= 8; depth++ {
				want := api.ErrName
				if secret <= last {
					want = api.ErrFlow
				}
				checkAll(t, x, api.View{}, zeros(depth), want)
				checkAll(t, x, viewOf("1/0=3", ""), zeros(depth), api.ErrName)
				checkAll(t, x, viewOf("", "1/0"), zeros(depth), api.ErrName)
				checkAll(t, x, viewOf("1/0=0", ""), zeros(depth), api.ErrFlow)
			}
		}
	}
}

// A way on which something is no container: that it is secret too does not count, but that a container before it is.
func TestWayOfAnotherKind(t *testing.T) {
	for last := 1; last <= 6; last++ {
		for secret := range last + 2 {
			for _, end := range each()[1:] {
				if secret <= last {
					end.Label = lb("1/0=3")
				}
				x := tower(t, end, rising(last, secret)...)
				for depth := last + 1; depth <= 8; depth++ {
					want := api.ErrName
					if secret < last {
						want = api.ErrFlow
					}
					checkAll(t, x, api.View{}, zeros(depth), want)
					checkAll(t, x, viewOf("1/0=3", ""), zeros(depth), api.ErrName)
				}
			}
		}
	}
}

// Each container has a category of its own, so that the view sees up to one that it does not.
func TestWayOfManyCategories(t *testing.T) {
	labels := []string{"1/0=2", "1/0=2,2/0=3", "1/0=2,2/0=3,3/0=2", "1/0=2,2/0=3,3/0=2,4/0=3", "1/0=2,2/0=3,3/0=2,4/0=3,5/0=2", "1/0=2,2/0=3,3/0=2,4/0=3,5/0=2,6/0=3"}
	cats := strings.Fields("1/0 2/0 3/0 4/0 5/0 6/0 7/0")
	end := labelled(segment("x"), "1/0=2,2/0=3,3/0=2,4/0=3,5/0=2,6/0=3,7/0=2")
	x := tower(t, end, labels...)
	for n := range cats {
		for _, v := range []api.View{{Own: cats[:n]}, {Label: end.Label[:n]}} {
			if n < 6 {
				checkAll(t, x, v, zeros(6), api.ErrFlow)
				checkAll(t, x, v, append(zeros(n), 1, 1), api.ErrFlow)
			} else {
				checkSeen(t, x, v, zeros(6), end, api.ErrFlow, api.ErrFlow)
				checkAll(t, x, v, append(zeros(n), 1, 1), api.ErrName)
			}
		}
	}
	checkSeen(t, x, api.View{Own: cats}, zeros(6), end, api.OK, api.OK)
	checkSeen(t, x, api.View{Label: end.Label}, zeros(6), end, api.OK, api.OK)
	checkSeen(t, x, api.View{Label: end.Label, Own: cats}, zeros(6), end, api.OK, api.OK)
}

// Each object of the sample, by views that see what has no label, or all that has 1/0=3.
func TestFindSample(t *testing.T) {
	x := sample(t)
	plain, high, owner := api.View{}, viewOf("1/0=3", ""), viewOf("2/0=2", "1/0 2/0")
	for text, o := range objects() {
		p := at(text)
		secret := strings.HasPrefix(text, "0.")
		switch {
		case secret:
			checkAll(t, x, plain, p, api.ErrFlow)
		case len(o.Label) > 0:
			checkSeen(t, x, plain, p, o, api.ErrFlow, api.ErrFlow)
		default:
			checkSeen(t, x, plain, p, o, api.OK, api.OK)
		}
		switch {
		case text == "0.0":
			checkSeen(t, x, high, p, o, api.ErrFlow, api.ErrFlow)
		case text == "0.0.7":
			checkAll(t, x, high, p, api.ErrFlow)
		case len(o.Label) > 0:
			checkSeen(t, x, high, p, o, api.OK, api.OK)
		default:
			checkSeen(t, x, high, p, o, api.OK, api.ErrFlow)
		}
		checkSeen(t, x, owner, p, o, api.OK, api.OK)
	}
}

func TestFindNothing(t *testing.T) {
	x := sample(t)
	for _, p := range missing() {
		for _, v := range append(append(plainViews(), highViews()...), viewOf("1/0=3,2/0=3", "7/0")) {
			checkAll(t, x, v, p, api.ErrName)
		}
		for _, v := range append(wrongViews(), viewOf("1/0=0", ""), viewOf("4/0=0", "1/0")) {
			checkAll(t, x, v, p, api.ErrFlow)
		}
	}
	// Below a secret container nothing is told.
	for _, p := range [][]int{{0, 5}, {0, 0, 0}, {0, -1}, {0, 1, 2}, {0, most + 1}, {0, 0, 0, 0, 0, 0, 0}, {0, math.MaxInt, 0}} {
		checkAll(t, x, api.View{}, p, api.ErrFlow)
		checkAll(t, x, viewOf("1/0=3,2/0=2", ""), p, api.ErrName)
	}
	// An object that was there.
	x.Remove([]int{5})
	checkAll(t, x, api.View{}, []int{5}, api.ErrName)
	checkAll(t, x, api.View{}, []int{5, 3}, api.ErrName)
}

// The path of a view does not count.
func TestPathOfView(t *testing.T) {
	x := sample(t)
	for _, p := range append(missing(), nil, []int{0, 1}, []int{2}) {
		v := api.View{Path: p, Label: lb("1/0=3")}
		checkSeen(t, x, v, []int{0, 1}, objects()["0.1"], api.OK, api.OK)
		checkSeen(t, x, v, []int{1}, objects()["1"], api.OK, api.ErrFlow)
	}
}

// P13.2: Read

// checkBytes checks what Read or Load returned.
func checkBytes(t *testing.T, what string, b []byte, f api.Errno, want string, e api.Errno) {
	t.Helper()
	if f != e || string(b) != want || e != api.OK && b != nil && len(b) > 0 {
		t.Errorf("%s: %q %v, not %q %v", what, b, f, want, e)
	}
	if cap(b) != len(b) {
		t.Errorf("%s: %q has spare capacity for %d", what, b, cap(b)-len(b))
	}
}

// part returns n bytes of text from from on, and OK, or ErrRange.
func part(text string, from, n int) (string, api.Errno) {
	if from < 0 || n < 0 || from > len(text) {
		return "", api.ErrRange
	}
	rest := text[from:]
	if n > len(rest) {
		return "", api.ErrRange
	}
	return rest[:n], api.OK
}

func TestRead(t *testing.T) {
	x := sample(t)
	before := x.Bytes()
	for _, s := range []struct {
		text  string
		at, n int
		want  string
		e     api.Errno
	}{
		{"1", 0, 7, "for all", api.OK}, {"1", 0, 0, "", api.OK}, {"1", 0, 3, "for", api.OK}, {"1", 4, 3, "all", api.OK}, {"1", 6, 1, "l", api.OK}, {"1", 2, 3, "r a", api.OK},
		{"1", 7, 0, "", api.OK}, {"1", 8, 0, "", api.ErrRange}, {"1", 9, 0, "", api.ErrRange}, {"1", 0, 8, "", api.ErrRange}, {"1", 1, 7, "", api.ErrRange}, {"1", 7, 1, "", api.ErrRange}, {"1", 8, 1, "", api.ErrRange}, {"1", 8, -1, "", api.ErrRange}, {"1", 9, -2, "", api.ErrRange},
		{"1", -1, 0, "", api.ErrRange}, {"1", -1, 1, "", api.ErrRange}, {"1", -1, 7, "", api.ErrRange}, {"1", 0, -1, "", api.ErrRange}, {"1", 3, -1, "", api.ErrRange}, {"1", -1, -1, "", api.ErrRange},
		{"11", 0, 0, "", api.OK}, {"11", 0, 1, "", api.ErrRange}, {"11", 1, 0, "", api.ErrRange}, {"11", 1, -1, "", api.ErrRange}, {"11", -1, 1, "", api.ErrRange},
		{"10", 0, 256, strings.Repeat("0123456789abcdef", 16), api.OK}, {"10", 250, 6, "abcdef", api.OK}, {"10", 250, 7, "", api.ErrRange}, {"10", 255, 1, "f", api.OK}, {"10", 256, 0, "", api.OK}, {"10", 0, 257, "", api.ErrRange}, {"10", 257, 0, "", api.ErrRange},
	} {
		b, e := Read(x, api.View{}, at(s.text), s.at, s.n)
		checkBytes(t, s.text+" from "+strconv.Itoa(s.at)+", "+strconv.Itoa(s.n), b, e, s.want, s.e)
	}
	checkTable(t, x, before)
}

// All places and lengths, and those beyond what a segment has, whose sum may be too great for a number.
func TestReadRange(t *testing.T) {
	x := sample(t)
	for _, text := range []string{"1", "11", "5.20"} {
		all := string(objects()[text].Bytes)
		for _, from := range append(numbers(), 2, 3, 4, 5, 6, 7, 8, 9) {
			for _, n := range append(numbers(), 2, 3, 4, 5, 6, 7, 8, 9) {
				want, e := part(all, from, n)
				b, f := Read(x, viewOf("1/0=3", ""), at(text), from, n)
				checkBytes(t, text+" from "+strconv.Itoa(from)+", "+strconv.Itoa(n), b, f, want, e)
			}
		}
	}
}

// What is no segment, or not seen, is told before the range is.
func TestReadErrors(t *testing.T) {
	x := sample(t)
	check := func(v api.View, p []int, e api.Errno) {
		t.Helper()
		for _, from := range numbers() {
			for _, n := range numbers() {
				b, f := Read(x, v, p, from, n)
				checkBytes(t, path.Text(p)+" by "+label.Text(v.Label), b, f, "", e)
			}
		}
	}
	for _, text := range texts() {
		if o := objects()[text]; o.Kind != api.Segment && !strings.HasPrefix(text, "0.") {
			check(api.View{}, at(text), api.ErrKind)
		}
	}
	for _, text := range []string{"0", "0.0", "0.2", "0.3", "0.4"} {
		check(viewOf("1/0=3", ""), at(text), api.ErrKind)
	}
	check(api.View{}, at("5.20"), api.ErrFlow)
	check(api.View{}, at("0.1"), api.ErrFlow)
	check(api.View{}, at("0.0"), api.ErrFlow)
	check(api.View{}, at("0.9"), api.ErrFlow)
	check(viewOf("1/0=3", ""), at("0.0.7"), api.ErrFlow)
	check(viewOf("1/0=3", ""), at("0.9"), api.ErrName)
	for _, p := range missing() {
		check(api.View{}, p, api.ErrName)
	}
	for _, v := range wrongViews() {
		check(v, at("1"), api.ErrFlow)
	}
}

// Who only sees reads too, and who owns the category.
func TestReadBySeers(t *testing.T) {
	x := sample(t)
	for _, v := range highViews() {
		for text, want := range map[string]string{"1": "for all", "5.20": "secret", "0.1": "hidden"} {
			b, e := Read(x, v, at(text), 0, len(want))
			checkBytes(t, text+" by "+label.Text(v.Label), b, e, want, api.OK)
		}
	}
	b, e := Read(x, viewOf("1/0=3,2/0=3", ""), at("0.0.7"), 1, 3)
	checkBytes(t, "0.0.7", b, e, "eep", api.OK)
	b, e = Read(x, viewOf("", "1/0 2/0"), at("0.0.7"), 0, 2)
	checkBytes(t, "0.0.7", b, e, "de", api.OK)
}

// A segment that is written, longer or shorter.
func TestReadFollows(t *testing.T) {
	x := sample(t)
	x.Set(at("1"), segment("other"))
	b, e := Read(x, api.View{}, at("1"), 0, 5)
	checkBytes(t, "1", b, e, "other", api.OK)
	b, e = Read(x, api.View{}, at("1"), 0, 6)
	checkBytes(t, "1", b, e, "", api.ErrRange)
	x.Set(at("1"), labelled(segment("x"), "1/0=3"))
	b, e = Read(x, api.View{}, at("1"), 0, 1)
	checkBytes(t, "1", b, e, "", api.ErrFlow)
}

// P13.2: List

func TestList(t *testing.T) {
	x := sample(t)
	before := x.Bytes()
	for _, s := range []struct {
		text string
		v    api.View
		want []api.Kid
	}{
		{"", api.View{}, objects()[""].Kids},
		{"", viewOf("1/0=3", ""), objects()[""].Kids},
		{"5", api.View{}, []api.Kid{kid(3, 1, 100), kid(20, 2, 50)}}, // one of them is secret, but not that it is there
		{"5.3", api.View{}, nil},
		{"0", viewOf("1/0=3", ""), objects()["0"].Kids},
		{"0", viewOf("", "1/0"), objects()["0"].Kids},
		{"0.0", viewOf("1/0=3,2/0=2", ""), []api.Kid{kid(7, 2, 30)}},
	} {
		if l, e := List(x, s.v, at(s.text)); e != api.OK || !slices.Equal(l, s.want) {
			t.Errorf("%q: %v %v, not %v", s.text, l, e, s.want)
		}
	}
	checkTable(t, x, before)
}

// The list follows what is added, moved and removed; 16 kids are the most.
func TestListFollows(t *testing.T) {
	x := table.New()
	var want []api.Kid
	check := func() {
		t.Helper()
		if l, e := List(x, api.View{}, nil); e != api.OK || !slices.Equal(l, want) {
			t.Errorf("%v %v, not %v", l, e, want)
		}
	}
	check()
	for i := range 16 {
		o := each()[i%5]
		o.Kids, o.Next = nil, 0
		if _, e := x.Add(nil, o, 200+i); e != api.OK {
			t.Fatalf("%v", e)
		}
		want = append(want, kid(i, o.Kind, 200+i))
		check()
	}
	x.Allot([]int{3}, 300)
	want[3].Quota = 300
	check()
	x.Remove([]int{0})
	want = want[1:]
	check()
}

func TestListErrors(t *testing.T) {
	x := sample(t)
	check := func(v api.View, p []int, e api.Errno) {
		t.Helper()
		if l, f := List(x, v, p); f != e || len(l) != 0 {
			t.Errorf("%v by %v: %v %v, not %v", p, v, l, f, e)
		}
	}
	for text, o := range objects() {
		if o.Kind != api.Container {
			check(viewOf("1/0=3,2/0=2", ""), at(text), api.ErrKind)
		}
	}
	check(api.View{}, at("5.20"), api.ErrKind) // it is not seen either
	check(api.View{}, at("6"), api.ErrKind)
	check(api.View{}, at("0"), api.ErrFlow)
	check(api.View{}, at("0.0"), api.ErrFlow)
	check(api.View{}, at("0.1"), api.ErrFlow)
	check(viewOf("1/0=3", ""), at("0.0"), api.ErrFlow)
	check(viewOf("1/0=0", ""), nil, api.ErrFlow)
	for _, p := range missing() {
		check(api.View{}, p, api.ErrName)
	}
	for _, v := range wrongViews() {
		check(v, nil, api.ErrFlow)
		check(v, []int{5}, api.ErrFlow)
		check(v, []int{7}, api.ErrFlow)
	}
}

// P13.2: Stat

func TestStat(t *testing.T) {
	x := sample(t)
	before := x.Bytes()
	all := viewOf("1/0=3,2/0=2", "")
	for _, s := range []struct {
		text, label          string
		uses, n, kind, quota int
	}{
		{"", "", 16 + 2000 + 40 + 60 + 90 + 120 + 600 + 50 + 112 + 300 + 16, 0, 1, most},
		{"0", "1/0=3", 16 + 500 + 70 + 80 + 90 + 100, 0, 1, 2000},
		{"0.0", "1/0=3,2/0=2", 46, 0, 1, 500},
		{"0.0.7", "1/0=3,2/0=2", 20, 7, 2, 30},
		{"0.1", "1/0=3", 22, 1, 2, 70},
		{"0.2", "1/0=3", 24, 2, 3, 80},
		{"0.3", "1/0=3", 16, 3, 4, 90},
		{"0.4", "1/0=3", 40, 4, 5, 100},
		{"1", "", 23, 1, 2, 40},
		{"2", "", 32, 2, 3, 60},
		{"3", "", 40, 3, 4, 90},
		{"4", "", 112, 4, 5, 120},
		{"5", "", 166, 5, 1, 600},
		{"5.3", "", 16, 3, 1, 100},
		{"5.20", "1/0=3", 22, 20, 2, 50},
		{"6", "1/0=3", 16, 6, 3, 50},
		{"8", "", 112, 8, 5, 112},
		{"10", "", 272, 10, 2, 300},
		{"11", "", 16, 11, 2, 16},
	} {
		want := api.Reply{N: s.uses, Label: lb(s.label), Kids: []api.Kid{kid(s.n, s.kind, s.quota)}}
		if r, e := Stat(x, all, at(s.text)); e != api.OK || !sameReply(r, want) {
			t.Errorf("%q: %v %v, not %v", s.text, r, e, want)
		}
	}
	checkTable(t, x, before)
	if r, e := Stat(table.New(), api.View{}, nil); e != api.OK || !sameReply(r, api.Reply{N: 16, Kids: []api.Kid{kid(0, 1, most)}}) {
		t.Errorf("%v %v", r, e)
	}
}

// A label of the root, and the number and the quota that are the greatest.
func TestStatMost(t *testing.T) {
	o := box(kid(most, 2, most-16))
	x := made(t, map[string]api.Object{"": labelled(o, "3/0=0"), strconv.Itoa(most): segment("x")})
	for _, s := range []struct {
		p    []int
		want api.Reply
	}{
		{nil, api.Reply{N: most, Label: lb("3/0=0"), Kids: []api.Kid{kid(0, 1, most)}}},
		{[]int{most}, api.Reply{N: 17, Kids: []api.Kid{kid(most, 2, most-16)}}},
	} {
		if r, e := Stat(x, api.View{}, s.p); e != api.OK || !sameReply(r, s.want) {
			t.Errorf("%v: %v %v", s.p, r, e)
		}
	}
}

func TestStatErrors(t *testing.T) {
	x := sample(t)
	check := func(v api.View, p []int, e api.Errno) {
		t.Helper()
		if r, f := Stat(x, v, p); f != e || !reflect.DeepEqual(r, api.Reply{}) {
			t.Errorf("%v by %v: %v %v, not %v", p, v, r, f, e)
		}
	}
	for _, text := range texts() {
		if len(objects()[text].Label) > 0 {
			check(api.View{}, at(text), api.ErrFlow)
		}
		for _, v := range wrongViews() {
			check(v, at(text), api.ErrFlow)
		}
	}
	check(viewOf("1/0=0", ""), nil, api.ErrFlow)
	check(api.View{}, at("0.9"), api.ErrFlow)
	check(viewOf("1/0=3", ""), at("0.9"), api.ErrName)
	for _, p := range missing() {
		check(api.View{}, p, api.ErrName)
	}
}

// P13.3: Mapped

// checkMapped checks what Mapped returns: the map with the number i of o, or nothing where that is -1.
func checkMapped(t *testing.T, o api.Object, from, i int) {
	t.Helper()
	want, ok := api.Map{}, i >= 0
	if ok {
		want = o.Maps[i]
	}
	m, found := Mapped(o, from)
	if found != ok || m.At != want.At || !slices.Equal(m.Seg, want.Seg) || m.Write != want.Write {
		t.Errorf("%v at %d: %v %v, not %v %v", o.Maps, from, m, found, want, ok)
	}
	if !found && !reflect.DeepEqual(m, api.Map{}) {
		t.Errorf("%v at %d: %v", o.Maps, from, m)
	}
}

func TestMapped(t *testing.T) {
	o := space("10:1.2 20: 21:3 1048576:1048576.0")
	for _, s := range [][2]int{
		{math.MinInt, -1}, {-1, -1}, {0, -1}, {1, -1}, {9, -1},
		{10, 0}, {11, 0}, {19, 0}, {20, 1}, {21, 2}, {22, 2}, {1000, 2}, {most - 1, 2}, {most, 3}, {most + 1, 3}, {math.MaxInt, 3},
	} {
		checkMapped(t, o, s[0], s[1])
	}
	o = space("0:5")
	for _, s := range [][2]int{{math.MinInt, -1}, {-1, -1}, {0, 0}, {1, 0}, {math.MaxInt, 0}} {
		checkMapped(t, o, s[0], s[1])
	}
}

func TestMappedNothing(t *testing.T) {
	for _, o := range append(each()[:4], api.Object{}, space(""), api.Object{Kind: api.Space, Maps: []api.Map{}}, box(kid(0, 5, 16))) {
		for _, from := range numbers() {
			checkMapped(t, o, from, -1)
		}
	}
}

// Objects that are not valid: only a space has maps, and the last map counts, whatever their order.
func TestMappedNotValid(t *testing.T) {
	maps := space("5:1 3:2 3:4 9:5 7:6").Maps
	for _, kind := range kinds() {
		o := api.Object{Kind: kind, Maps: maps}
		for from, i := range map[int]int{2: -1, 3: 2, 4: 2, 5: 2, 6: 2, 7: 4, 8: 4, 9: 4, math.MaxInt: 4, math.MinInt: -1} {
			if kind != api.Space {
				i = -1
			}
			checkMapped(t, o, from, i)
		}
	}
	o := api.Object{Kind: api.Space, Maps: []api.Map{{At: math.MinInt, Seg: []int{-1}, Write: true}, {At: -1, Seg: zeros(9)}, {At: math.MaxInt}}}
	for from, i := range map[int]int{math.MinInt: 0, -2: 0, -1: 1, math.MaxInt - 1: 1, math.MaxInt: 2} {
		checkMapped(t, o, from, i)
	}
}

// P13.3: Load

func TestLoad(t *testing.T) {
	x := sample(t)
	before := x.Bytes()
	for _, s := range []struct {
		label, text string
		at, n       int
		want        string
		e           api.Errno
	}{
		// The space 4 has 1 at 0, 0.1 at 100, nothing at 200 and a thread at 300.
		{"", "4", 0, 7, "for all", api.OK}, {"", "4", 0, 0, "", api.OK}, {"", "4", 4, 3, "all", api.OK}, {"", "4", 7, 0, "", api.OK},
		{"", "4", 0, 8, "", api.ErrRange}, {"", "4", 4, 4, "", api.ErrRange}, {"", "4", 7, 1, "", api.ErrRange}, {"", "4", 8, 0, "", api.ErrRange}, {"", "4", 8, 1, "", api.ErrRange}, {"", "4", 99, 0, "", api.ErrRange}, {"", "4", 99, 2, "", api.ErrRange},
		{"", "4", -1, 0, "", api.ErrRange}, {"", "4", -1, 1, "", api.ErrRange}, {"", "4", 0, -1, "", api.ErrRange}, {"", "4", 3, -1, "", api.ErrRange},
		{"", "4", 100, 1, "", api.ErrFlow}, {"", "4", 100, 0, "", api.ErrFlow}, {"", "4", 100, -1, "", api.ErrFlow}, {"", "4", 150, 1, "", api.ErrFlow},
		{"1/0=3", "4", 100, 6, "hidden", api.OK}, {"1/0=3", "4", 103, 3, "den", api.OK}, {"1/0=3", "4", 106, 0, "", api.OK}, {"1/0=3", "4", 106, 1, "", api.ErrRange}, {"1/0=3", "4", 107, 0, "", api.ErrRange}, {"1/0=3", "4", 100, 7, "", api.ErrRange}, {"1/0=3", "4", 0, 3, "for", api.OK},
		{"", "4", 200, 0, "", api.ErrName}, {"", "4", 299, 1, "", api.ErrName}, {"", "4", 200, -1, "", api.ErrName}, {"1/0=3", "4", 250, 1, "", api.ErrName},
		{"", "4", 300, 0, "", api.ErrKind}, {"", "4", 1 << 40, 1, "", api.ErrKind}, {"", "4", math.MaxInt, math.MaxInt, "", api.ErrKind},
		// The space 8 has 10 at 10, 0.0.7 at 20, a container at 30 and an empty segment at 40.
		{"", "8", 0, 0, "", api.ErrRange}, {"", "8", 9, 1, "", api.ErrRange}, {"", "8", 9, -1, "", api.ErrRange}, {"", "8", 10, 3, "012", api.OK}, {"", "8", 19, 3, "9ab", api.OK}, {"", "8", 10, 256, strings.Repeat("0123456789abcdef", 16), api.OK}, {"", "8", 11, 256, "", api.ErrRange},
		{"", "8", 20, 1, "", api.ErrFlow}, {"1/0=3", "8", 20, 1, "", api.ErrFlow}, {"1/0=3,2/0=2", "8", 20, 4, "deep", api.OK}, {"1/0=3,2/0=2", "8", 21, 3, "eep", api.OK},
		{"", "8", 30, 0, "", api.ErrKind}, {"", "8", 39, 1, "", api.ErrKind}, {"", "8", 40, 0, "", api.OK}, {"", "8", 40, 1, "", api.ErrRange}, {"", "8", 41, 0, "", api.ErrRange}, {"", "8", math.MaxInt, 0, "", api.ErrRange}, {"", "8", math.MaxInt, 1, "", api.ErrRange},
		// The space 0.4 is secret, and has 1 at 3, which is not.
		{"", "0.4", 3, 1, "", api.ErrFlow}, {"", "0.4", 0, 1, "", api.ErrFlow}, {"1/0=3", "0.4", 2, 0, "", api.ErrRange}, {"1/0=3", "0.4", 3, 7, "for all", api.OK}, {"1/0=3", "0.4", 7, 3, "all", api.OK},
	} {
		b, e := Load(x, viewOf(s.label, ""), at(s.text), s.at, s.n)
		checkBytes(t, s.text+" at "+strconv.Itoa(s.at)+", "+strconv.Itoa(s.n)+" by "+s.label, b, e, s.want, s.e)
	}
	checkTable(t, x, before)
}

// Places and lengths, and those beyond all of it, whose sum may be too great for a number.
func TestLoadRange(t *testing.T) {
	x := made(t, map[string]api.Object{"": box(kid(0, 5, 100), kid(1, 2, 30), kid(2, 2, 30)), "0": space("3:1 12:2"), "1": segment("abcd"), "2": segment("xyz")})
	places := append(numbers(), 2, 3, 4, 5, 6, 7, 8, 11, 12, 13, 14, 15, 16, 17)
	for _, from := range places {
		for _, n := range append(numbers(), 2, 3, 4, 5) {
			want, e := "", api.ErrRange
			if from >= 12 {
				want, e = part("xyz", from-12, n)
			} else if from >= 3 {
				want, e = part("abcd", from-3, n)
			}
			b, f := Load(x, api.View{}, []int{0}, from, n)
			checkBytes(t, "at "+strconv.Itoa(from)+", "+strconv.Itoa(n), b, f, want, e)
		}
	}
}

// What is no space, or not seen, is told before the range is.
func TestLoadErrors(t *testing.T) {
	x := sample(t)
	check := func(v api.View, p []int, e api.Errno) {
		t.Helper()
		for _, from := range numbers() {
			for _, n := range numbers() {
				b, f := Load(x, v, p, from, n)
				checkBytes(t, path.Text(p)+" by "+label.Text(v.Label), b, f, "", e)
			}
		}
	}
	for text, o := range objects() {
		if o.Kind != api.Space {
			check(viewOf("1/0=3,2/0=2", ""), at(text), api.ErrKind)
		}
	}
	check(api.View{}, at("5.20"), api.ErrKind)
	check(api.View{}, at("0.4"), api.ErrFlow)
	check(api.View{}, at("0.9"), api.ErrFlow)
	check(viewOf("1/0=3", ""), at("0.9"), api.ErrName)
	for _, p := range missing() {
		check(api.View{}, p, api.ErrName)
	}
	for _, v := range wrongViews() {
		check(v, at("4"), api.ErrFlow)
	}
	// A space without maps.
	x = made(t, map[string]api.Object{"": box(kid(0, 5, 100)), "0": space("")})
	check(api.View{}, []int{0}, api.ErrRange)
}

// A segment may be mapped before it is there, and go on being mapped when it is gone.
func TestLoadFollows(t *testing.T) {
	x := sample(t)
	check := func(want string, e api.Errno) {
		t.Helper()
		b, f := Load(x, api.View{}, []int{4}, 200, len(want))
		checkBytes(t, "9", b, f, want, e)
	}
	check("", api.ErrName)
	if n, e := x.Add([]int{5, 3}, segment("new"), 50); n != 0 || e != api.OK {
		t.Fatalf("%d %v", n, e)
	}
	x.Set([]int{4}, space("200:5.3.0"))
	check("new", api.OK)
	x.Set([]int{5, 3, 0}, segment("newer"))
	check("newer", api.OK)
	x.Set([]int{5, 3, 0}, labelled(segment("newer"), "9/0=2"))
	check("", api.ErrFlow)
	x.Remove([]int{5})
	check("", api.ErrName)
}

// A space may map the root, itself and another space: none is a segment.
func TestLoadNoSegment(t *testing.T) {
	x := made(t, map[string]api.Object{"": box(kid(0, 5, 100)), "0": space("0: 5:0 7:0.0")})
	for from, want := range map[int]api.Errno{0: api.ErrKind, 4: api.ErrKind, 5: api.ErrKind, 7: api.ErrName} {
		b, e := Load(x, api.View{}, []int{0}, from, 0)
		checkBytes(t, strconv.Itoa(from), b, e, "", want)
	}
}

// P13.1 to P13.3: any tables, against the model.

// compare compares all functions with the model at a random place, and tells which results there were.
func compare(t *testing.T, r *rand.Rand, x *table.Table, w world) []string {
	t.Helper()
	v, p, kind := randomView(r), near(r, x, r.Intn(6)), r.Intn(6)
	var found []string
	for how, g := range getters() {
		want, e := w.object(v, p, kind, how)
		checkGet(t, g, x, v, p, kind, want, e)
		found = append(found, g.name+" "+strconv.Itoa(int(e)))
	}
	o, e := w.object(v, p, 0, 1)
	want := api.Reply{}
	if e == api.OK {
		want = api.Reply{N: table.Uses(o), Label: o.Label, Kids: []api.Kid{kid(append([]int{0}, p...)[len(p)], o.Kind, x.Quota(p))}}
	}
	if a, f := Stat(x, v, p); f != e || !sameReply(a, want) {
		t.Errorf("Stat of %v by %v: %v %v, not %v %v", p, v, a, f, want, e)
	}
	o, e = w.object(v, p, api.Container, 1)
	if l, f := List(x, v, p); f != e || !slices.Equal(l, o.Kids) {
		t.Errorf("List of %v by %v: %v %v, not %v %v", p, v, l, f, o.Kids, e)
	}
	found = append(found, "List "+strconv.Itoa(int(e)))
	from, n := r.Intn(24)-1, r.Intn(6)-1
	text, e := w.load(v, p, from, n)
	b, f := Load(x, v, p, from, n)
	checkBytes(t, "Load", b, f, text, e)
	found = append(found, "Load "+strconv.Itoa(int(e)))
	from = r.Intn(10) - 1
	text, e = w.read(v, p, from, n)
	b, f = Read(x, v, p, from, n)
	checkBytes(t, "Read", b, f, text, e)
	found = append(found, "Read "+strconv.Itoa(int(e)))
	view, f := Who(x, p)
	if o, ok := w[path.Text(p)]; !ok || o.Kind != api.Thread {
		if f != api.ErrName || !sameView(view, api.View{}) {
			t.Errorf("Who at %v: %v %v", p, view, f)
		}
	} else if f != api.OK || !sameView(view, api.View{Path: p, Label: o.Label, Own: o.Own}) {
		t.Errorf("Who at %v: %v %v", p, view, f)
	}
	return append(found, "Who "+strconv.Itoa(int(f)))
}

func TestRandom(t *testing.T) {
	found := map[string]int{}
	for seed := range int64(20) {
		r := rand.New(rand.NewSource(seed))
		x, w := randomTable(r)
		before := x.Bytes()
		for i := range 400 {
			for _, what := range compare(t, r, x, w) {
				found[what]++
			}
			if t.Failed() {
				t.Fatalf("seed %d, step %d", seed, i)
			}
		}
		checkTable(t, x, before)
	}
	for _, name := range []string{"Find 0", "Find 30", "Find 32", "See 0", "See 30", "See 31", "See 32", "Alter 0", "Alter 30", "Alter 31", "Alter 32", "List 0", "List 30", "List 31", "List 32", "Read 0", "Read 30", "Read 31", "Read 32", "Read 37", "Load 0", "Load 30", "Load 31", "Load 32", "Load 37", "Who 0", "Who 30"} {
		if found[name] < 10 {
			t.Errorf("%s: %d times", name, found[name])
		}
	}
}

// P13.4

// outcome is what a view is told at a place.
type outcome struct {
	object api.Object
	kids   []api.Kid
	reply  api.Reply
	text   string
	e      api.Errno
}

// outcomes returns what all functions that see tell this view.
func outcomes(x *table.Table, v api.View, p []int, kind, from, n int) []outcome {
	var l []outcome
	for _, g := range getters() {
		o, e := g.get(x, v, p, kind)
		l = append(l, outcome{object: tidy(o), e: e})
	}
	kids, e := List(x, v, p)
	l = append(l, outcome{kids: kids, e: e})
	a, e := Stat(x, v, p)
	l = append(l, outcome{reply: a, e: e})
	b, e := Read(x, v, p, from, n)
	l = append(l, outcome{text: string(b), e: e})
	b, e = Load(x, v, p, from, n)
	return append(l, outcome{text: string(b), e: e})
}

// Whatever a view is told, one that owns more is told too.
func TestOwningMore(t *testing.T) {
	told := map[int]int{}
	more := 0
	for seed := range int64(20) {
		r := rand.New(rand.NewSource(100 + seed))
		x, _ := randomTable(r)
		for range 400 {
			v, p, kind, from, n := randomView(r), near(r, x, r.Intn(6)), r.Intn(6), r.Intn(12)-1, r.Intn(4)-1
			w := v
			own, e := owns.Union(v.Own, randomOwn(r))
			if e != api.OK {
				continue
			}
			w.Own = own
			a, b := outcomes(x, v, p, kind, from, n), outcomes(x, w, p, kind, from, n)
			for i := range a {
				if a[i].e == api.OK {
					told[i]++
				} else if b[i].e == api.OK {
					more++
				}
				if a[i].e == api.OK && !reflect.DeepEqual(a[i], b[i]) {
					t.Fatalf("%v at %v is told %v, but with %v %v", v, p, a[i], own, b[i])
				}
			}
		}
	}
	for i := range 7 {
		if told[i] < 50 {
			t.Errorf("%d: %d times", i, told[i])
		}
	}
	if more < 100 {
		t.Errorf("owning more told more %d times", more)
	}
}

// With all categories that are in a table, a view sees all of it.
func TestOwningAll(t *testing.T) {
	for seed := range int64(10) {
		r := rand.New(rand.NewSource(200 + seed))
		x, w := randomTable(r)
		for text, o := range w {
			v := api.View{Label: randomLabel(r), Own: names()}
			checkSeen(t, x, v, at(text), o, api.OK, api.OK)
		}
	}
}

// What is read belongs to objects that the view sees, on the way and at the end.
func TestWhatIsRead(t *testing.T) {
	read := 0
	for seed := range int64(20) {
		r := rand.New(rand.NewSource(300 + seed))
		x, w := randomTable(r)
		for range 400 {
			v, p, from, n := randomView(r), near(r, x, r.Intn(6)), r.Intn(12)-1, r.Intn(4)-1
			var places [][]int
			for i, o := range outcomes(x, v, p, 0, from, n) {
				if i > 0 && o.e == api.OK {
					places = append(places, p)
				}
			}
			if _, e := Load(x, v, p, from, n); e == api.OK {
				m, _ := Mapped(w[path.Text(p)], from)
				places = append(places, m.Seg)
			}
			for _, q := range places {
				for n := range len(q) + 1 {
					read++
					if o := w[path.Text(q[:n])]; !flows(o.Label, v.Label, v.Own) {
						t.Fatalf("%v reads %v, though %v has %v", v, q, q[:n], o.Label)
					}
				}
			}
		}
	}
	if read < 1000 {
		t.Errorf("%d", read)
	}
}

// Two tables that differ only in what a view does not see tell it the same.
func TestSecretsDoNotCount(t *testing.T) {
	x, y := sample(t), sample(t)
	y.Set(at("5.20"), labelled(segment("other and longer"), "1/0=3"))
	y.Set(at("6"), api.Object{Kind: api.Thread, Label: lb("1/0=3"), Own: []string{"5/0"}, Cats: 8})
	y.Set(at("0.1"), labelled(segment(""), "1/0=3"))
	y.Remove(at("0.0"))
	y.Remove(at("0.2"))
	y.Add(at("0"), labelled(segment("new"), "1/0=3"), 40)
	places := missing()
	for text := range objects() {
		places = append(places, at(text))
	}
	for _, p := range append(places, at("0.5"), at("0.9"), at("0.0.0")) {
		for _, v := range plainViews() {
			for _, kind := range kinds() {
				for _, from := range []int{-1, 0, 3, 7, 10, 20, 100, 103, 200, 300} {
					a, b := outcomes(x, v, p, kind, from, 2), outcomes(y, v, p, kind, from, 2)
					// Find does not ask for what the object itself is.
					if !reflect.DeepEqual(a[1:], b[1:]) {
						t.Fatalf("%v at %v, from %d: %v, but %v", v, p, from, a, b)
					}
				}
			}
		}
	}
}

// Nil tables

func TestNilTable(t *testing.T) {
	views := append(append(plainViews(), highViews()...), wrongViews()...)
	for _, p := range append(missing(), nil, []int{}, []int{0}, []int{0, 0}, zeros(6)) {
		if v, e := Who(nil, p); e != api.ErrName || !reflect.DeepEqual(v, api.View{}) {
			t.Errorf("%v: %v %v", p, v, e)
		}
		for _, v := range views {
			for _, g := range getters() {
				for _, kind := range kinds() {
					if o, e := g.get(nil, v, p, kind); e != api.ErrName || !reflect.DeepEqual(o, api.Object{}) {
						t.Errorf("%s of %v: %v %v", g.name, p, o, e)
					}
				}
			}
			if l, e := List(nil, v, p); e != api.ErrName || len(l) != 0 {
				t.Errorf("%v: %v %v", p, l, e)
			}
			if a, e := Stat(nil, v, p); e != api.ErrName || !reflect.DeepEqual(a, api.Reply{}) {
				t.Errorf("%v: %v %v", p, a, e)
			}
			for _, n := range numbers() {
				b, e := Read(nil, v, p, n, n)
				checkBytes(t, "Read", b, e, "", api.ErrName)
				b, e = Load(nil, v, p, n, 0)
				checkBytes(t, "Load", b, e, "", api.ErrName)
			}
		}
	}
}

// Rules of all layers

// spare returns a copy of l with two more elements in its spare capacity.
func spare[T any](l []T, extra T) []T {
	return append(slices.Clone(l), extra, extra)[: len(l) : len(l)+2]
}

// arguments are those of a call: a path, a view and an object with spare capacity everywhere.
type arguments struct {
	p []int
	v api.View
	o api.Object
}

// roomy returns a copy of the arguments, all of whose lists have two more elements in their spare capacity.
func roomy(a arguments) arguments {
	b := arguments{p: spare(a.p, 77), o: a.o}
	b.v = api.View{Path: spare(a.v.Path, 78), Label: spare(a.v.Label, api.Entry{Cat: "79/0", Level: 2}), Own: spare(a.v.Own, "80/0")}
	b.o.Label = spare(a.o.Label, api.Entry{Cat: "81/0", Level: 3})
	b.o.Maps = nil
	for _, m := range a.o.Maps {
		m.Seg = spare(m.Seg, 82)
		b.o.Maps = append(b.o.Maps, m)
	}
	b.o.Maps = spare(b.o.Maps, api.Map{At: 1, Seg: []int{83}})
	return b
}

// whole returns the arguments with what is in their spare capacity.
func whole(a arguments) arguments {
	a.p = a.p[:cap(a.p)]
	a.v = api.View{Path: a.v.Path[:cap(a.v.Path)], Label: a.v.Label[:cap(a.v.Label)], Own: a.v.Own[:cap(a.v.Own)]}
	a.o.Label = a.o.Label[:cap(a.o.Label)]
	a.o.Maps = slices.Clone(a.o.Maps[:cap(a.o.Maps)])
	for i, m := range a.o.Maps {
		a.o.Maps[i].Seg = m.Seg[:cap(m.Seg)]
	}
	return a
}

// overWrite writes over all that the arguments have, with their spare capacity.
func overWrite(a arguments) {
	over(a.p, 99)
	over(a.v.Path, 98)
	over(a.v.Label, api.Entry{Cat: "97/0", Level: 0})
	over(a.v.Own, "96/0")
	over(a.o.Label, api.Entry{Cat: "95/0", Level: 2})
	for _, m := range a.o.Maps {
		over(m.Seg, 94)
	}
	over(a.o.Maps, api.Map{At: 93})
}

// over writes x over all elements of a list, with its spare capacity.
func over[T any](l []T, x T) {
	l = l[:cap(l)]
	for i := range l {
		l[i] = x
	}
}

// results is what all functions return for some arguments.
type results struct {
	who     api.View
	objects []api.Object
	bytes   [][]byte
	kids    []api.Kid
	reply   api.Reply
	mapped  api.Map
}

// all calls each function.
func all(x *table.Table, a arguments, from, n int) results {
	var r results
	r.who, _ = Who(x, a.p)
	for _, g := range getters() {
		o, _ := g.get(x, a.v, a.p, 0)
		r.objects = append(r.objects, o)
	}
	for _, f := range []func(*table.Table, api.View, []int, int, int) ([]byte, api.Errno){Read, Load} {
		b, _ := f(x, a.v, a.p, from, n)
		r.bytes = append(r.bytes, b)
	}
	r.kids, _ = List(x, a.v, a.p)
	r.reply, _ = Stat(x, a.v, a.p)
	r.mapped, _ = Mapped(a.o, from)
	return r
}

// copied returns a copy of the results in memory of its own.
func copied(r results) results {
	r.who = api.View{Path: slices.Clone(r.who.Path), Label: slices.Clone(r.who.Label), Own: slices.Clone(r.who.Own)}
	r.objects = slices.Clone(r.objects)
	for i, o := range r.objects {
		r.objects[i] = table.Copy(o)
	}
	r.bytes = slices.Clone(r.bytes)
	for i, b := range r.bytes {
		r.bytes[i] = slices.Clone(b)
	}
	r.kids = slices.Clone(r.kids)
	r.reply.Label = slices.Clone(r.reply.Label)
	r.reply.Kids = slices.Clone(r.reply.Kids)
	r.mapped.Seg = slices.Clone(r.mapped.Seg)
	return r
}

// overResults writes over all that the results have, with their spare capacity.
func overResults(r results) {
	entry := api.Entry{Cat: "97/0", Level: 0}
	over(r.who.Path, 99)
	over(r.who.Label, entry)
	over(r.who.Own, "96/0")
	for _, o := range r.objects {
		over(o.Label, entry)
		over(o.Kids, kid(9, 9, 9))
		over(o.Bytes, 'z')
		over(o.Own, "95/0")
		over(o.Entry, entry)
		for _, m := range o.Maps {
			over(m.Seg, 94)
		}
		over(o.Maps, api.Map{At: 93})
	}
	for _, b := range r.bytes {
		over(b, 'y')
	}
	over(r.kids, kid(8, 8, 8))
	over(r.reply.Label, entry)
	over(r.reply.Kids, kid(7, 7, 7))
	over(r.mapped.Seg, 92)
}

// some returns arguments for each object of the sample, and some for which there is none.
func some() []arguments {
	places := missing()
	for _, text := range texts() {
		places = append(places, at(text))
	}
	var l []arguments
	for i, p := range places {
		views := append(highViews(), api.View{}, viewOf("1/0=3,2/0=2", "10/0"), wrongViews()[i%len(wrongViews())])
		for _, v := range views {
			l = append(l, arguments{p: p, v: v, o: space("0:1 2:3.4 4:")})
			l = append(l, arguments{p: p, v: v, o: labelled(space("0:1.2.3"), "1/0=2")})
		}
	}
	return l
}

func TestArgumentsStay(t *testing.T) {
	x := sample(t)
	before := x.Bytes()
	for _, a := range some() {
		for _, from := range []int{-1, 0, 3, 10, 105} {
			b, c := roomy(a), roomy(a)
			r := all(x, b, from, 2)
			if !reflect.DeepEqual(whole(b), whole(c)) {
				t.Errorf("%v was changed to %v", whole(c), whole(b))
			}
			checkTable(t, x, before)
			// Neither the results nor the table have anything of the arguments.
			kept := copied(r)
			overWrite(b)
			if !reflect.DeepEqual(r, kept) {
				t.Errorf("%v: the arguments are in the results %v, which were %v", a, r, kept)
			}
			checkTable(t, x, before)
		}
	}
}

func TestResultsAreNew(t *testing.T) {
	x := sample(t)
	before := x.Bytes()
	for _, a := range some() {
		for _, from := range []int{0, 3, 10} {
			b, c := roomy(a), roomy(a)
			first, second := all(x, b, from, 2), all(x, b, from, 2)
			kept := copied(second)
			overResults(first)
			if !reflect.DeepEqual(second, kept) || !reflect.DeepEqual(whole(b), whole(c)) {
				t.Errorf("%v: results share memory with one another or the arguments", a)
			}
			checkTable(t, x, before)
			// What was told before stays, whatever is asked then.
			all(x, b, from, 3)
			if !reflect.DeepEqual(second, kept) || !reflect.DeepEqual(all(x, b, from, 2), kept) {
				t.Errorf("%v: %v, not %v", a, second, kept)
			}
		}
	}
}

// No list of one result shares memory with another one of it.
func TestListsApart(t *testing.T) {
	x := made(t, map[string]api.Object{"": box(kid(0, 5, 100), kid(1, 4, 100), kid(2, 3, 100)), "0": labelled(space("0:1.2 3:1.2"), "1/0=3"), "1": labelled(api.Object{Kind: api.Gate, Entry: lb("1/0=3"), Own: []string{"1/0"}}, "1/0=3"), "2": {Kind: api.Thread, Label: lb("1/0=3"), Own: []string{"1/0"}}})
	v := viewOf("1/0=3", "")
	for _, g := range getters() {
		o, _ := g.get(x, v, []int{0}, 0)
		over(o.Maps[0].Seg, 9)
		if !slices.Equal(o.Maps[1].Seg, []int{1, 2}) {
			t.Errorf("%s: %v", g.name, o)
		}
		o, _ = g.get(x, v, []int{1}, 0)
		over(o.Label, api.Entry{})
		over(o.Own, "x")
		if !slices.Equal(o.Entry, lb("1/0=3")) {
			t.Errorf("%s: %v", g.name, o)
		}
	}
	w, _ := Who(x, []int{2})
	over(w.Own, "x")
	over(w.Path, 9)
	if !slices.Equal(w.Label, lb("1/0=3")) {
		t.Errorf("%v", w)
	}
}

// What was told stays when the table changes.
func TestResultsStay(t *testing.T) {
	for _, a := range some() {
		x := sample(t)
		r := all(x, a, 0, 2)
		kept := copied(r)
		for _, text := range texts() {
			o, _ := x.Get(at(text))
			o.Bytes = bytes.ToUpper(o.Bytes)
			over(o.Own, "9/0")
			for i := range o.Maps {
				o.Maps[i] = api.Map{At: 50 + i, Seg: []int{9}}
			}
			x.Set(at(text), o)
			x.Allot(at(text), 2000)
		}
		x.Add(nil, segment("new"), 50)
		x.Remove([]int{0})
		x.Remove([]int{2})
		x.Remove([]int{5})
		all(x, a, 0, 2)
		if !reflect.DeepEqual(r, kept) {
			t.Errorf("%v: %v, not %v", a, r, kept)
		}
	}
}

// The bytes that were not asked for are not behind those that were, nor may they be brought back.
func TestNothingBehind(t *testing.T) {
	x := sample(t)
	before := x.Bytes()
	for n := range 8 {
		b, _ := Read(x, api.View{}, []int{1}, 0, n)
		c, _ := Load(x, api.View{}, []int{4}, 0, n)
		for _, l := range [][]byte{b, c} {
			if cap(l) != n {
				t.Errorf("%d bytes have room for %d", n, cap(l))
			}
			if s := string(append(l, '!')); s != "for all"[:n]+"!" {
				t.Errorf("%q", s)
			}
		}
	}
	checkTable(t, x, before)
}

// What the functions return depends on the table alone, not on how it became what it is, nor on earlier calls.
func TestSameTableSameResults(t *testing.T) {
	r := rand.New(rand.NewSource(11))
	x, _ := randomTable(r)
	y, e := table.Load(x.Bytes())
	if e != api.OK {
		t.Fatalf("%v", e)
	}
	z := x.Clone()
	for range 500 {
		v, p, kind, from, n := randomView(r), near(r, x, r.Intn(6)), r.Intn(6), r.Intn(12)-1, r.Intn(4)-1
		a := outcomes(x, v, p, kind, from, n)
		b := outcomes(y, v, p, kind, from, n)
		c := outcomes(z, v, p, kind, from, n)
		for i := range a {
			a[i].kids, b[i].kids, c[i].kids = append([]api.Kid{}, a[i].kids...), append([]api.Kid{}, b[i].kids...), append([]api.Kid{}, c[i].kids...)
			a[i].reply.Label, b[i].reply.Label, c[i].reply.Label = append(api.Label{}, a[i].reply.Label...), append(api.Label{}, b[i].reply.Label...), append(api.Label{}, c[i].reply.Label...)
		}
		if !reflect.DeepEqual(a, b) || !reflect.DeepEqual(a, c) {
			t.Fatalf("%v at %v: %v, %v and %v", v, p, a, b, c)
		}
	}
}

// Arguments of great length end too.
func TestLong(t *testing.T) {
	x := sample(t)
	before := x.Bytes()
	p := zeros(1 << 20)
	checkAll(t, x, viewOf("1/0=3,2/0=2", ""), p, api.ErrName)
	checkAll(t, x, api.View{}, p, api.ErrFlow)
	if _, e := Who(x, p); e != api.ErrName {
		t.Errorf("%v", e)
	}
	for _, v := range []api.View{{Label: make(api.Label, 1<<20)}, {Own: make([]string, 1<<20)}, {Own: []string{strings.Repeat("1.", 1<<20) + "1/0"}}} {
		checkAll(t, x, v, []int{1}, api.ErrFlow)
		checkSeen(t, x, v, nil, objects()[""], api.ErrFlow, api.ErrFlow)
	}
	checkSeen(t, x, api.View{Path: p}, []int{1}, objects()["1"], api.OK, api.OK)
	o := api.Object{Kind: api.Space, Maps: make([]api.Map, 1<<20)}
	o.Maps[5].Seg = p
	checkMapped(t, o, 0, 1<<20-1)
	checkMapped(t, o, -1, -1)
	checkTable(t, x, before)
}
