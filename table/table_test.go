package table

import (
	"bytes"
	"maps"
	"math"
	"math/rand"
	"reflect"
	"slices"
	"strconv"
	"strings"
	"testing"

	"regency/api"
	"regency/label"
	"regency/owns"
	"regency/path"
	"regency/tape"
)

// at returns the path with this text.
func at(text string) []int {
	p, ok := path.Parse(text)
	if !ok {
		panic(text)
	}
	return p
}

// lb returns the label with this text.
func lb(text string) api.Label {
	var l api.Label
	for part := range strings.SplitSeq(text, ",") {
		cat, level, _ := strings.Cut(part, "=")
		n, _ := strconv.Atoi(level)
		l = append(l, api.Entry{Cat: cat, Level: n})
	}
	return l
}

// catsFrom returns n categories in order.
func catsFrom(n int) []string {
	var l []string
	for i := range n {
		l = append(l, "1."+strconv.Itoa(i+5)+"/0")
	}
	return l
}

// entries returns a label with n entries, valid if these are not too many.
func entries(n int) api.Label {
	var l api.Label
	for i, cat := range catsFrom(n) {
		l = append(l, api.Entry{Cat: cat, Level: []int{0, 2, 3}[i%3]})
	}
	return l
}

// kids returns n kids with the numbers from 0 on.
func kids(n int) []api.Kid {
	var l []api.Kid
	for i := range n {
		l = append(l, api.Kid{N: i, Kind: i%5 + 1, Quota: i})
	}
	return l
}

// mapped returns n maps.
func mapped(n int) []api.Map {
	var l []api.Map
	for i := range n {
		l = append(l, api.Map{At: 3 * i, Seg: []int{1, i}, Write: i%2 == 0})
	}
	return l
}

// segment returns a segment of n bytes.
func segment(n int) api.Object {
	return api.Object{Kind: api.Segment, Bytes: bytes.Repeat([]byte{'x'}, n)}
}

// box returns an empty container.
func box() api.Object {
	return api.Object{Kind: api.Container}
}

// labelled returns o with this label.
func labelled(o api.Object, l api.Label) api.Object {
	o.Label = l
	return o
}

// rightObjects returns valid objects of each Kind, with each field that it has in the middle and at its ends.
func rightObjects() []api.Object {
	l := []api.Object{
		{Kind: 1}, {Kind: 2}, {Kind: 3}, {Kind: 4}, {Kind: 5},
		{Kind: 1, Label: api.Label{}, Kids: []api.Kid{}, Bytes: []byte{}, Own: []string{}, Entry: api.Label{}, Maps: []api.Map{}},
		{Kind: 5, Label: api.Label{}, Kids: []api.Kid{}, Bytes: []byte{}, Own: []string{}, Entry: api.Label{}, Maps: []api.Map{}},
		{Kind: 1, Next: 1}, {Kind: 1, Next: 1 << 20}, {Kind: 1, Next: 1<<20 + 1},
		{Kind: 1, Next: 1, Kids: kids(1)}, {Kind: 1, Next: 15, Kids: kids(15)}, {Kind: 1, Next: 16, Kids: kids(16)}, {Kind: 1, Next: 1<<20 + 1, Kids: kids(16)},
		{Kind: 1, Next: 1<<20 + 1, Kids: []api.Kid{{N: 1 << 20, Kind: 5, Quota: 1 << 20}}},
		{Kind: 1, Next: 11, Kids: []api.Kid{{N: 2, Kind: 1, Quota: 1 << 20}, {N: 10, Kind: 1, Quota: 1 << 20}}},
		{Kind: 2, Bytes: []byte{0}}, segment(255), segment(256),
		{Kind: 3, Own: []string{"/0"}}, {Kind: 3, Own: catsFrom(7)}, {Kind: 3, Own: catsFrom(8)}, {Kind: 3, Own: []string{"2/0", "10/0"}},
		{Kind: 3, Cats: 1}, {Kind: 3, Cats: 1 << 16}, {Kind: 3, Cats: 300, Own: catsFrom(8)},
		{Kind: 4, Own: catsFrom(1)}, {Kind: 4, Own: catsFrom(8)}, {Kind: 4, Entry: lb("1/0=3")}, {Kind: 4, Entry: entries(8)},
		{Kind: 4, Ring: 1}, {Kind: 4, Ring: 1 << 20}, {Kind: 4, Ring: 1 << 20, Own: catsFrom(8), Entry: entries(8)},
		{Kind: 5, Maps: mapped(1)}, {Kind: 5, Maps: mapped(4)},
		{Kind: 5, Maps: []api.Map{{At: 0, Write: true}, {At: 1 << 20, Seg: []int{0, 1, 2, 3, 4, 1 << 20}}}},
		{Kind: 5, Maps: []api.Map{{At: 1 << 20, Seg: []int{1 << 20}, Write: true}}},
	}
	for kind := 1; kind <= 5; kind++ {
		l = append(l, api.Object{Kind: kind, Label: lb("1/0=3,2/0=0")}, api.Object{Kind: kind, Label: entries(8)})
	}
	return l
}

// wrongNumbers returns numbers that are negative or greater than most.
func wrongNumbers(most int) []int {
	return []int{-1, -2, -1 << 20, math.MinInt, most + 1, most + 2, 1 << 40, 1<<62 - 1, 1 << 62, math.MaxInt}
}

// wrongLabels returns labels that are not valid.
func wrongLabels() []api.Label {
	return []api.Label{entries(9), lb("1/0=1"), lb("1/0=4"), {{Cat: "1/0", Level: -1}}, lb("x=2"), lb("2/0=2,1/0=2"), lb("1/0=2,1/0=2"), lb("1/0=3,1/0=2"), lb("=2")}
}

// wrongPaths returns lists that are not paths.
func wrongPaths() [][]int {
	return [][]int{{-1}, {0, -1}, {-1, 0}, {1<<20 + 1}, {0, 1<<20 + 1}, {0, 0, 0, 0, 0, 0, 0}, {1, 2, 3, 4, 5, 6, 7}, {math.MinInt}, {math.MaxInt}, {1, 2, 3, 4, 5, math.MaxInt}, make([]int, 100)}
}

// wrongObjects returns objects that are not valid, for each reason.
func wrongObjects() []api.Object {
	l := []api.Object{
		{Kind: 1, Next: 17, Kids: kids(17)}, {Kind: 1, Next: 100, Kids: kids(100)},
		{Kind: 1, Kids: kids(1)}, {Kind: 1, Next: 2, Kids: kids(3)}, {Kind: 1, Next: 15, Kids: kids(16)},
		{Kind: 1, Next: 9, Kids: []api.Kid{{N: 2, Kind: 1}, {N: 1, Kind: 1}}},
		{Kind: 1, Next: 9, Kids: []api.Kid{{N: 1, Kind: 1}, {N: 1, Kind: 1}}},
		{Kind: 1, Next: 9, Kids: []api.Kid{{N: 0, Kind: 1}, {N: 0, Kind: 1}}},
		{Kind: 1, Next: 9, Kids: []api.Kid{{N: 1, Kind: 1}, {N: 3, Kind: 1}, {N: 2, Kind: 1}}},
		{Kind: 1, Next: 9, Kids: []api.Kid{{N: 1, Kind: 1}, {N: 3, Kind: 1}, {N: 3, Kind: 2, Quota: 1}}},
		{Kind: 1, Next: 9, Kids: []api.Kid{{N: 9, Kind: 1}}}, {Kind: 1, Next: 9, Kids: []api.Kid{{N: 10, Kind: 1}}},
		{Kind: 1, Next: -1, Kids: []api.Kid{{N: -2, Kind: 1}}}, {Kind: 1, Next: 0, Kids: []api.Kid{{N: -1, Kind: 1}}},
		{Kind: 1, Next: 1<<20 + 2, Kids: []api.Kid{{N: 1<<20 + 1, Kind: 1}}},
		{Kind: 1, Next: math.MaxInt, Kids: []api.Kid{{N: math.MaxInt, Kind: 1}}}, {Kind: 1, Next: math.MaxInt, Kids: []api.Kid{{N: math.MaxInt - 1, Kind: 1}}},
		segment(257), segment(1000),
		{Kind: 3, Own: catsFrom(9)}, {Kind: 3, Own: []string{"x"}}, {Kind: 3, Own: []string{""}}, {Kind: 3, Own: []string{"2/0", "1/0"}}, {Kind: 3, Own: []string{"1/0", "1/0"}}, {Kind: 4, Own: []string{"10/0", "2/0"}}, {Kind: 4, Own: catsFrom(9)},
		{Kind: 5, Maps: mapped(5)}, {Kind: 5, Maps: mapped(50)},
		{Kind: 5, Maps: []api.Map{{At: 1}, {At: 0}}}, {Kind: 5, Maps: []api.Map{{At: 1}, {At: 1}}}, {Kind: 5, Maps: []api.Map{{At: 0}, {At: 0, Write: true}}}, {Kind: 5, Maps: []api.Map{{At: 0}, {At: 5}, {At: 4}}},
	}
	for _, kind := range append(wrongNumbers(5), 0) {
		l = append(l, api.Object{Kind: kind}, api.Object{Kind: 1, Next: 3, Kids: []api.Kid{{N: 0, Kind: 1}, {N: 2, Kind: kind}}})
	}
	for _, n := range wrongNumbers(1 << 20) {
		l = append(l,
			api.Object{Kind: 1, Next: 2, Kids: []api.Kid{{N: n, Kind: 1}}},
			api.Object{Kind: 1, Next: 2, Kids: []api.Kid{{N: 0, Kind: 1, Quota: n}}},
			api.Object{Kind: 1, Next: 2, Kids: []api.Kid{{N: 0, Kind: 1}, {N: 1, Kind: 2, Quota: n}}},
			api.Object{Kind: 4, Ring: n},
			api.Object{Kind: 5, Maps: []api.Map{{At: n}}},
			api.Object{Kind: 5, Maps: []api.Map{{At: 0}, {At: n}}})
	}
	for _, n := range wrongNumbers(1<<20 + 1) {
		l = append(l, api.Object{Kind: 1, Next: n})
	}
	for _, n := range wrongNumbers(1 << 16) {
		l = append(l, api.Object{Kind: 3, Cats: n})
	}
	for _, bad := range wrongLabels() {
		l = append(l, api.Object{Kind: 4, Entry: bad})
		for kind := 1; kind <= 5; kind++ {
			l = append(l, api.Object{Kind: kind, Label: bad})
		}
	}
	for _, p := range wrongPaths() {
		l = append(l, api.Object{Kind: 5, Maps: []api.Map{{At: 0, Seg: p}}}, api.Object{Kind: 5, Maps: []api.Map{{At: 0}, {At: 1, Seg: p}}})
	}
	return l
}

// owners returns for each field that is not for all objects the Kinds that have it.
func owners() map[string][]int {
	return map[string][]int{"Kids": {1}, "Next": {1}, "Bytes": {2}, "Own": {3, 4}, "Cats": {3}, "Entry": {4}, "Ring": {4}, "Maps": {5}}
}

// from reports whether n is from least to most.
func from(least, n, most int) bool {
	return least <= n && n <= most
}

// isObject is the document's definition of a valid object, in its order.
func isObject(o api.Object) bool {
	right := from(1, o.Kind, 5) && label.Right(o.Label) && len(o.Kids) <= 16
	for i, k := range o.Kids {
		right = right && (i == 0 || o.Kids[i-1].N < k.N) && k.N >= 0 && k.N < o.Next && from(1, k.Kind, 5) && from(0, k.Quota, 1<<20)
	}
	right = right && from(0, o.Next, 1<<20+1) && len(o.Bytes) <= 256 && owns.Right(o.Own) && from(0, o.Cats, 1<<16)
	right = right && label.Right(o.Entry) && from(0, o.Ring, 1<<20) && len(o.Maps) <= 4
	for i, m := range o.Maps {
		right = right && (i == 0 || o.Maps[i-1].At < m.At) && from(0, m.At, 1<<20) && path.Right(m.Seg)
	}
	v := reflect.ValueOf(o)
	for name, kinds := range owners() {
		f := v.FieldByName(name)
		empty := f.Kind() == reflect.Slice && f.Len() == 0 || f.IsZero()
		right = right && (empty || slices.Contains(kinds, o.Kind))
	}
	return right
}

// usage is the document's definition of the usage of an object.
func usage(o api.Object) int {
	n := 16
	for _, k := range o.Kids {
		n += k.Quota
	}
	for range o.Bytes {
		n++
	}
	for range o.Own {
		n += 8
	}
	for range o.Entry {
		n += 16
	}
	for range o.Maps {
		n += 24
	}
	return n
}

// numbers returns the encodings of numbers, without those that have none.
func numbers(l ...int) []byte {
	var b []byte
	for _, n := range l {
		if n < 0 || n >= 1<<62 {
			continue
		}
		for ; n > 127; n /= 128 {
			b = append(b, byte(n%128+128))
		}
		b = append(b, byte(n))
	}
	return b
}

// text returns the encoding of a string.
func text(s string) []byte {
	return append(numbers(len(s)), s...)
}

// encodedLabel returns the encoding of a label.
func encodedLabel(l api.Label) []byte {
	b := numbers(len(l))
	for _, e := range l {
		b = append(append(b, text(e.Cat)...), numbers(e.Level)...)
	}
	return b
}

// encoded returns the encoding of an object as the document describes it.
func encoded(o api.Object) []byte {
	b := slices.Concat(numbers(o.Kind), encodedLabel(o.Label), numbers(len(o.Kids)))
	for _, k := range o.Kids {
		b = append(b, numbers(k.N, k.Kind, k.Quota)...)
	}
	b = slices.Concat(b, numbers(o.Next), text(string(o.Bytes)), numbers(len(o.Own)))
	for _, cat := range o.Own {
		b = append(b, text(cat)...)
	}
	b = slices.Concat(b, numbers(o.Cats), encodedLabel(o.Entry), numbers(o.Ring, len(o.Maps)))
	for _, m := range o.Maps {
		write := 0
		if m.Write {
			write = 1
		}
		b = append(b, numbers(append([]int{m.At, len(m.Seg)}, m.Seg...)...)...)
		b = append(b, numbers(write)...)
	}
	return b
}

// written returns what Put writes.
func written(o api.Object) []byte {
	var w tape.Pen
	Put(&w, o)
	return w.Bytes()
}

// equal reports whether two objects are equal, where nil and empty lists are.
func equal(a, b api.Object) bool {
	return a.Kind == b.Kind && a.Next == b.Next && a.Cats == b.Cats && a.Ring == b.Ring &&
		slices.Equal(a.Label, b.Label) && slices.Equal(a.Kids, b.Kids) && bytes.Equal(a.Bytes, b.Bytes) && slices.Equal(a.Own, b.Own) && slices.Equal(a.Entry, b.Entry) &&
		slices.EqualFunc(a.Maps, b.Maps, func(x, y api.Map) bool {
			return x.At == y.At && x.Write == y.Write && slices.Equal(x.Seg, y.Seg)
		})
}

func TestLimits(t *testing.T) {
	if api.MostKids != 16 || api.MostText != 256 || api.MostMaps != 4 || api.MostCats != 1<<16 || api.MostNumber != 1<<20 || api.MostQuota != 1<<20 || api.MostDepth != 6 || api.MostOwn != 8 || api.MostEntries != 8 {
		t.Errorf("the tests are for other limits")
	}
}

// P9.1

func TestRight(t *testing.T) {
	for _, o := range rightObjects() {
		if !Right(o) || !isObject(o) {
			t.Errorf("%v is an object", o)
		}
	}
	for _, o := range wrongObjects() {
		if Right(o) || isObject(o) {
			t.Errorf("%v is not an object", o)
		}
	}
}

func TestRightKinds(t *testing.T) {
	for kind := -10; kind < 300; kind++ {
		if Right(api.Object{Kind: kind}) != (kind >= 1 && kind <= 5) {
			t.Errorf("the Kind %d", kind)
		}
		o := api.Object{Kind: 1, Next: 1, Kids: []api.Kid{{Kind: kind}}}
		if Right(o) != (kind >= 1 && kind <= 5) {
			t.Errorf("a kid of the Kind %d", kind)
		}
	}
}

// Each field at each Kind, alone and with the others of that Kind.
func TestRightFields(t *testing.T) {
	full := api.Object{Label: lb("1/0=2"), Kids: kids(2), Next: 7, Bytes: []byte("x"), Own: catsFrom(2), Cats: 3, Entry: entries(2), Ring: 9, Maps: mapped(2)}
	for kind := range 7 {
		whole := api.Object{Kind: kind}
		for name, kinds := range owners() {
			if slices.Contains(kinds, kind) {
				reflect.ValueOf(&whole).Elem().FieldByName(name).Set(reflect.ValueOf(full).FieldByName(name))
			}
		}
		if Right(whole) != (kind >= 1 && kind <= 5) {
			t.Errorf("%v", whole)
		}
		for name, kinds := range owners() {
			if name == "Kids" {
				// Kids without a Next are never right.
				continue
			}
			for _, o := range []api.Object{{Kind: kind}, whole} {
				reflect.ValueOf(&o).Elem().FieldByName(name).Set(reflect.ValueOf(full).FieldByName(name))
				if Right(o) != slices.Contains(kinds, kind) {
					t.Errorf("the Kind %d with %s: %v", kind, name, Right(o))
				}
			}
		}
	}
}

func TestRightLengths(t *testing.T) {
	for n := range 300 {
		for _, x := range []struct {
			o    api.Object
			most int
		}{
			{api.Object{Kind: 1, Next: 1000, Kids: kids(n)}, 16},
			{segment(n), 256},
			{api.Object{Kind: 3, Own: catsFrom(n)}, 8},
			{api.Object{Kind: 4, Own: catsFrom(n)}, 8},
			{api.Object{Kind: 4, Entry: entries(n)}, 8},
			{api.Object{Kind: 5, Maps: mapped(n)}, 4},
			{api.Object{Kind: 5, Label: entries(n)}, 8},
			{api.Object{Kind: 5, Maps: []api.Map{{Seg: make([]int, n)}}}, 6},
		} {
			if Right(x.o) != (n <= x.most) {
				t.Errorf("%d of at most %d: %v", n, x.most, Right(x.o))
			}
		}
	}
}

// randomNumber returns a number that is at times just at an end of 0 to most, and at times outside.
func randomNumber(r *rand.Rand, most int) int {
	switch r.Intn(12) {
	case 0:
		return wrongNumbers(most)[r.Intn(10)]
	case 1:
		return most
	case 2:
		return 0
	}
	return r.Intn(min(most, 30) + 1)
}

// randomLabel returns a label, seldom one that is not valid.
func randomLabel(r *rand.Rand) api.Label {
	switch r.Intn(10) {
	case 0, 1, 2, 3:
		return nil
	case 4:
		if r.Intn(3) == 0 {
			return wrongLabels()[r.Intn(len(wrongLabels()))]
		}
	}
	var l api.Label
	for _, cat := range []string{"1/0", "2/0", "10/0"} {
		if level := r.Intn(4); level != 1 {
			l = append(l, api.Entry{Cat: cat, Level: level})
		}
	}
	return l
}

// randomObject returns an object of any fields, which is valid at times.
func randomObject(r *rand.Rand) api.Object {
	o := api.Object{Kind: 1 + r.Intn(5), Label: randomLabel(r)}
	if r.Intn(20) == 0 {
		o.Kind = randomNumber(r, 5)
	}
	has := func(name string) bool { return slices.Contains(owners()[name], o.Kind) || r.Intn(40) == 0 }
	if has("Kids") {
		o.Next = randomNumber(r, 1<<20+1)
		last := -1
		for range r.Intn([]int{1, 4, 19}[r.Intn(3)]) {
			last += r.Intn(20) / 6
			o.Kids = append(o.Kids, api.Kid{N: last, Kind: 1 + r.Intn(5), Quota: r.Intn(40)})
		}
		if len(o.Kids) > 0 && r.Intn(3) > 0 {
			o.Next = last + 1
		}
	}
	if has("Bytes") {
		o.Bytes = make([]byte, []int{0, 1, 5, 17, 200, 255, 256, 257}[r.Intn(8)])
		r.Read(o.Bytes)
	}
	if has("Own") {
		o.Own = [][]string{nil, {"1/0"}, {"1/0", "2/0"}, catsFrom(8), catsFrom(9), {"2/0", "1/0"}}[r.Intn(6)]
	}
	if has("Cats") {
		o.Cats = randomNumber(r, 1<<16)
	}
	if has("Entry") {
		o.Entry = randomLabel(r)
		o.Ring = randomNumber(r, 1<<20)
	}
	if has("Maps") {
		last := -1
		for range r.Intn(6) {
			last += r.Intn(20) / 2
			o.Maps = append(o.Maps, api.Map{At: last, Seg: [][]int{nil, {0}, {1, 2}, {3, 4, 5, 6, 7, 8}}[r.Intn(4)], Write: r.Intn(2) == 0})
		}
	}
	return o
}

func TestRightRandom(t *testing.T) {
	r := rand.New(rand.NewSource(1))
	var found [6]int
	for range 50000 {
		o := randomObject(r)
		if Right(o) != isObject(o) {
			t.Fatalf("%v: %v", o, Right(o))
		}
		if Right(o) {
			found[o.Kind]++
		} else {
			found[0]++
		}
	}
	for kind, n := range found {
		if n < 1000 {
			t.Errorf("%d of the Kind %d", n, kind)
		}
	}
}

func TestUses(t *testing.T) {
	for _, x := range []struct {
		o    api.Object
		want int
	}{
		{api.Object{}, 16},
		{box(), 16},
		{api.Object{Kind: 1, Next: 1<<20 + 1, Label: entries(8)}, 16},
		{api.Object{Kind: 1, Next: 9, Kids: []api.Kid{{N: 3, Kind: 2, Quota: 100}, {N: 4, Kind: 5, Quota: 7}}}, 123},
		{segment(0), 16}, {segment(3), 19}, {segment(256), 272},
		{api.Object{Kind: 3, Own: catsFrom(1), Cats: 500}, 24}, {api.Object{Kind: 3, Own: catsFrom(8)}, 80},
		{api.Object{Kind: 4, Own: catsFrom(2), Entry: entries(3), Ring: 1000}, 16 + 16 + 48},
		{api.Object{Kind: 4, Own: catsFrom(8), Entry: entries(8)}, 16 + 64 + 128},
		{api.Object{Kind: 5, Maps: mapped(1)}, 40}, {api.Object{Kind: 5, Maps: mapped(4)}, 112},
		{api.Object{Kind: 5, Maps: []api.Map{{At: 1000, Seg: []int{1, 2, 3, 4, 5, 6}, Write: true}}}, 40},
		// Objects that are not valid have a usage, too.
		{api.Object{Kids: kids(3), Bytes: make([]byte, 1000), Own: []string{"x", "x"}, Entry: entries(10), Maps: mapped(9), Next: -1, Cats: -1, Ring: -1}, 16 + 3 + 1000 + 16 + 160 + 216},
		{api.Object{Kids: []api.Kid{{Quota: -100}, {Quota: 50}}}, -34},
		{api.Object{Kids: []api.Kid{{Quota: math.MaxInt}, {Quota: math.MinInt}}}, 15},
	} {
		if n := Uses(x.o); n != x.want {
			t.Errorf("%v: %d, not %d", x.o, n, x.want)
		}
	}
}

func TestUsesRandom(t *testing.T) {
	r := rand.New(rand.NewSource(2))
	for range 20000 {
		if o := randomObject(r); Uses(o) != usage(o) {
			t.Fatalf("%v: %d", o, Uses(o))
		}
	}
}

// anyObjects returns objects, valid or not.
func anyObjects() []api.Object {
	l := slices.Concat(rightObjects(), wrongObjects(), []api.Object{{}, {Maps: []api.Map{{Seg: []int{}}, {Seg: []int{-1}}, {}}}})
	l = append(l, api.Object{Kind: -3, Label: lb("z=9,1/0=1"), Kids: kids(20), Next: -7, Bytes: make([]byte, 300), Own: []string{"b", "a"}, Cats: -1, Entry: lb("z=9"), Ring: 1 << 61, Maps: mapped(7)})
	r := rand.New(rand.NewSource(3))
	for range 200 {
		l = append(l, randomObject(r))
	}
	return l
}

func TestCopy(t *testing.T) {
	for _, o := range anyObjects() {
		if c := Copy(o); !reflect.DeepEqual(c, o) {
			t.Errorf("%v: %v", o, c)
		}
	}
}

func TestPut(t *testing.T) {
	for _, x := range []struct {
		o    api.Object
		want string
	}{
		{api.Object{}, "\x00\x00\x00\x00\x00\x00\x00\x00\x00\x00"},
		{box(), "\x01\x00\x00\x00\x00\x00\x00\x00\x00\x00"},
		{api.Object{Kind: 2, Label: lb("1/0=3"), Bytes: []byte("abc")}, "\x02\x01\x031/0\x03\x00\x00\x03abc\x00\x00\x00\x00\x00"},
		{api.Object{Kind: 1, Next: 300, Kids: []api.Kid{{N: 5, Kind: 2, Quota: 20}, {N: 7, Kind: 1, Quota: 300}}}, "\x01\x00\x02\x05\x02\x14\x07\x01\xac\x02\xac\x02\x00\x00\x00\x00\x00\x00"},
		{api.Object{Kind: 3, Own: []string{"1/0", "10/0"}, Cats: 129}, "\x03\x00\x00\x00\x00\x02\x031/0\x0410/0\x81\x01\x00\x00\x00"},
		{api.Object{Kind: 4, Own: []string{"/0"}, Entry: lb("/0=2"), Ring: 128}, "\x04\x00\x00\x00\x00\x01\x02/0\x00\x01\x02/0\x02\x80\x01\x00"},
		{api.Object{Kind: 5, Maps: []api.Map{{At: 4, Seg: []int{1, 200}, Write: true}, {At: 9}}}, "\x05\x00\x00\x00\x00\x00\x00\x00\x00\x02\x04\x02\x01\xc8\x01\x01\x09\x00\x00"},
	} {
		if b := written(x.o); string(b) != x.want {
			t.Errorf("%v: %q, not %q", x.o, b, x.want)
		}
	}
	for _, o := range anyObjects() {
		if b := written(o); !bytes.Equal(b, encoded(o)) {
			t.Errorf("%v: %q", o, b)
		}
	}
}

// A number that a tape does not have is left out, and all others are there.
func TestPutOmits(t *testing.T) {
	const rest = "\x00\x00\x00\x00\x00\x00\x00"
	for _, n := range []int{-1, math.MinInt, 1 << 62, math.MaxInt} {
		for _, x := range []struct {
			o    api.Object
			want string
		}{
			{api.Object{Kind: n}, "\x00\x00\x00" + rest[1:]},
			{api.Object{Label: api.Label{{Cat: "c", Level: n}}}, "\x00\x01\x01c\x00" + rest},
			{api.Object{Kids: []api.Kid{{N: n, Kind: 8, Quota: 9}}}, "\x00\x00\x01\x08\x09" + rest},
			{api.Object{Kids: []api.Kid{{N: 7, Kind: n, Quota: 9}}}, "\x00\x00\x01\x07\x09" + rest},
			{api.Object{Kids: []api.Kid{{N: 7, Kind: 8, Quota: n}}}, "\x00\x00\x01\x07\x08" + rest},
			{api.Object{Next: n}, "\x00\x00\x00" + rest[1:]},
			{api.Object{Cats: n}, "\x00\x00\x00" + rest[1:]},
			{api.Object{Ring: n}, "\x00\x00\x00" + rest[1:]},
			{api.Object{Maps: []api.Map{{At: n, Seg: []int{6}, Write: true}}}, "\x00\x00\x00" + rest[1:] + "\x01\x01\x06\x01"},
			{api.Object{Maps: []api.Map{{At: 5, Seg: []int{n}, Write: true}}}, "\x00\x00\x00" + rest[1:] + "\x01\x05\x01\x01"},
		} {
			if b := written(x.o); string(b) != x.want {
				t.Errorf("%v: %q, not %q", x.o, b, x.want)
			}
		}
	}
}

func TestPutBehind(t *testing.T) {
	var w tape.Pen
	w.Text("hi")
	Put(&w, segment(2))
	Put(&w, box())
	if want := slices.Concat(text("hi"), encoded(segment(2)), encoded(box())); !bytes.Equal(w.Bytes(), want) {
		t.Errorf("%q", w.Bytes())
	}
}

func TestNilPen(t *testing.T) {
	for _, o := range anyObjects() {
		Put(nil, o)
	}
}

func TestNew(t *testing.T) {
	x := New()
	o, ok := x.Get(nil)
	if !ok || !equal(o, box()) || o.Next != 0 || len(o.Label) != 0 {
		t.Errorf("%v %v", o, ok)
	}
	if l := x.Paths(); len(l) != 1 || len(l[0]) != 0 {
		t.Errorf("%v", l)
	}
	if x.Quota(nil) != 1<<20 || x.Quota([]int{}) != 1<<20 {
		t.Errorf("%d", x.Quota(nil))
	}
	// One new table is not another one.
	y := New()
	mustAdd(t, x, "", box(), 100)
	if len(y.Paths()) != 1 || len(New().Paths()) != 1 {
		t.Errorf("%v", y.Paths())
	}
}

// P9.2

// mustAdd adds an object, which has to succeed.
func mustAdd(t *testing.T, x *Table, container string, o api.Object, quota int) {
	t.Helper()
	if n, e := x.Add(at(container), o, quota); n < 0 || e != api.OK {
		t.Fatalf("%q: %d %v", container, n, e)
	}
}

// sample returns a table with objects of each Kind and some depth:
//
//	""       the root, with the kids 0 to 4
//	0        a container with the quota 1000, with the kids 0, 1 and 2; it uses 16 + 500 + 200 + 40
//	0.0      a container with the label 1/0=2, with the kid 0
//	0.0.0    a container with the label 1/0=3, with the kid 0
//	0.0.0.0  a segment of 50 bytes with that label, with the quota 66, all of which it uses
//	0.1      an empty container
//	0.2      a segment of 4 bytes with the quota 40
//	1 to 4   a segment, a thread, a gate and a space with the quotas 30, 60, 90 and 120
func sample(t *testing.T) *Table {
	t.Helper()
	x := New()
	mustAdd(t, x, "", box(), 1000)
	mustAdd(t, x, "", segment(3), 30)
	mustAdd(t, x, "", api.Object{Kind: api.Thread, Own: []string{"1/0"}, Cats: 7}, 60)
	mustAdd(t, x, "", api.Object{Kind: api.Gate, Own: []string{"1/0"}, Entry: lb("1/0=3"), Ring: 5}, 90)
	mustAdd(t, x, "", api.Object{Kind: api.Space, Maps: mapped(2)}, 120)
	mustAdd(t, x, "0", labelled(box(), lb("1/0=2")), 500)
	mustAdd(t, x, "0", box(), 200)
	mustAdd(t, x, "0", segment(4), 40)
	mustAdd(t, x, "0.0", labelled(box(), lb("1/0=3")), 100)
	mustAdd(t, x, "0.0.0", labelled(segment(50), lb("1/0=3")), 66)
	return x
}

// samplePaths returns the texts of the paths of the sample, in order.
func samplePaths() []string {
	return []string{"", "0", "0.0", "0.0.0", "0.0.0.0", "0.1", "0.2", "1", "2", "3", "4"}
}

// missing returns paths of no object of the sample, and lists that are not paths.
func missing() [][]int {
	return slices.Concat(wrongPaths(), [][]int{{5}, {9}, {1 << 20}, {0, 3}, {0, 0, 1}, {0, 1, 0}, {0, 2, 0}, {1, 0}, {2, 0}, {0, 0, 0, 0, 0}, {0, 0, 0, 0, 0, 0}, {5, 0}, {4, 4, 4, 4, 4, 4}})
}

// table returns the table with these objects.
func table(t *testing.T, objects map[string]api.Object) *Table {
	t.Helper()
	x, e := Of(objects)
	if e != api.OK {
		t.Fatalf("%v: %v", objects, e)
	}
	return x
}

// objectsOf returns the objects of a table by the texts of their paths.
func objectsOf(t *testing.T, x *Table) map[string]api.Object {
	t.Helper()
	objects := map[string]api.Object{}
	for _, p := range x.Paths() {
		o, ok := x.Get(p)
		if !ok {
			t.Fatalf("%v is not there", p)
		}
		objects[path.Text(p)] = o
	}
	return objects
}

// checkSame checks that what a call left behind is what was there before.
func checkSame(t *testing.T, what string, x *Table, before []byte) {
	t.Helper()
	if !bytes.Equal(x.Bytes(), before) {
		t.Errorf("%s: the table has changed", what)
	}
}

func TestGet(t *testing.T) {
	x := sample(t)
	for text, want := range map[string]api.Object{
		"":        {Kind: 1, Next: 5, Kids: []api.Kid{{N: 0, Kind: 1, Quota: 1000}, {N: 1, Kind: 2, Quota: 30}, {N: 2, Kind: 3, Quota: 60}, {N: 3, Kind: 4, Quota: 90}, {N: 4, Kind: 5, Quota: 120}}},
		"0":       {Kind: 1, Next: 3, Kids: []api.Kid{{N: 0, Kind: 1, Quota: 500}, {N: 1, Kind: 1, Quota: 200}, {N: 2, Kind: 2, Quota: 40}}},
		"0.0":     {Kind: 1, Label: lb("1/0=2"), Next: 1, Kids: []api.Kid{{N: 0, Kind: 1, Quota: 100}}},
		"0.0.0":   {Kind: 1, Label: lb("1/0=3"), Next: 1, Kids: []api.Kid{{N: 0, Kind: 2, Quota: 66}}},
		"0.0.0.0": labelled(segment(50), lb("1/0=3")),
		"0.1":     box(),
		"0.2":     segment(4),
		"1":       segment(3),
		"2":       {Kind: 3, Own: []string{"1/0"}, Cats: 7},
		"3":       {Kind: 4, Own: []string{"1/0"}, Entry: lb("1/0=3"), Ring: 5},
		"4":       {Kind: 5, Maps: mapped(2)},
	} {
		if o, ok := x.Get(at(text)); !ok || !equal(o, want) {
			t.Errorf("%q: %v %v, not %v", text, o, ok, want)
		}
	}
	if o, ok := x.Get([]int{}); !ok || o.Kind != 1 {
		t.Errorf("%v %v", o, ok)
	}
}

func TestGetNothing(t *testing.T) {
	x := sample(t)
	for _, p := range missing() {
		if o, ok := x.Get(p); ok || !reflect.DeepEqual(o, api.Object{}) {
			t.Errorf("%v: %v %v", p, o, ok)
		}
	}
}

func TestQuota(t *testing.T) {
	x := sample(t)
	want := []int{1 << 20, 1000, 500, 100, 66, 200, 40, 30, 60, 90, 120}
	for i, text := range samplePaths() {
		if n := x.Quota(at(text)); n != want[i] {
			t.Errorf("%q: %d, not %d", text, n, want[i])
		}
	}
	for _, p := range missing() {
		if n := x.Quota(p); n != -1 {
			t.Errorf("%v: %d", p, n)
		}
	}
}

func TestSet(t *testing.T) {
	x := sample(t)
	for _, s := range []struct {
		text string
		o    api.Object
	}{
		{"1", segment(14)}, {"1", segment(0)}, {"1", labelled(segment(1), lb("3/0=3"))}, {"1", labelled(segment(1), lb("3/0=2,4/0=3"))},
		{"0.2", segment(24)}, {"0.2", segment(0)},
		{"0.0.0.0", labelled(segment(50), lb("1/0=3,2/0=2"))},
		{"2", api.Object{Kind: 3, Own: catsFrom(5), Cats: 1 << 16}}, {"2", api.Object{Kind: 3}}, {"2", labelled(api.Object{Kind: 3}, lb("1/0=2"))},
		{"3", api.Object{Kind: 4, Own: catsFrom(5), Entry: entries(2), Ring: 1 << 20}}, {"3", api.Object{Kind: 4}},
		{"4", api.Object{Kind: 5, Maps: mapped(4)}}, {"4", api.Object{Kind: 5}},
		{"0.1", labelled(box(), lb("7/0=3"))}, {"0.1", box()},
	} {
		p := at(s.text)
		want := objectsOf(t, x)
		want[s.text] = s.o
		if e := x.Set(p, s.o); e != api.OK {
			t.Fatalf("%q, %v: %v", s.text, s.o, e)
		}
		for text, o := range objectsOf(t, x) {
			if !equal(o, want[text]) {
				t.Errorf("after %q became %v, %q is %v", s.text, s.o, text, o)
			}
		}
	}
}

// The label of a container may change as long as it flows to those of its kids, and that of its container to it.
func TestSetLabels(t *testing.T) {
	for _, s := range []struct {
		text  string
		label api.Label
		e     api.Errno
	}{
		{"0.0", lb("1/0=2"), api.OK}, {"0.0", lb("1/0=3"), api.OK}, {"0.0", nil, api.OK},
		{"0.0", lb("1/0=0"), api.ErrArg}, // below its container
		{"0.0", lb("2/0=2"), api.ErrArg}, // not to its kid
		{"0.0", lb("1/0=3,2/0=2"), api.ErrArg},
		{"0.0.0", lb("1/0=2"), api.OK}, {"0.0.0", nil, api.ErrArg}, {"0.0.0", lb("1/0=3,2/0=3"), api.ErrArg},
		{"0.0.0.0", lb("1/0=2"), api.ErrArg}, {"0.0.0.0", nil, api.ErrArg}, {"0.0.0.0", lb("1/0=3,5/0=3"), api.OK},
		{"0", lb("1/0=2"), api.ErrArg}, // not to two of its kids
		{"0", lb("1/0=0"), api.ErrArg}, // below the root
		{"", lb("1/0=0"), api.OK}, {"", lb("1/0=0,2/0=0"), api.OK}, {"", lb("1/0=2"), api.ErrArg}, {"", lb("9/0=3"), api.ErrArg},
		{"1", lb("1/0=0"), api.ErrArg}, {"1", lb("1/0=3"), api.OK},
	} {
		x := sample(t)
		before := x.Bytes()
		o, _ := x.Get(at(s.text))
		o.Label = s.label
		if e := x.Set(at(s.text), o); e != s.e {
			t.Errorf("%q with %v: %v, not %v", s.text, s.label, e, s.e)
		}
		if s.e != api.OK {
			checkSame(t, s.text, x, before)
		} else if now, _ := x.Get(at(s.text)); !equal(now, o) {
			t.Errorf("%q is %v, not %v", s.text, now, o)
		}
	}
}

// Each label of the root lets the same labels of its kids be that flow from it.
func TestSetRootLabel(t *testing.T) {
	x := New()
	for _, l := range []api.Label{lb("1/0=3"), lb("1/0=0,2/0=2"), entries(8), nil} {
		if e := x.Set(nil, labelled(box(), l)); e != api.OK {
			t.Errorf("%v: %v", l, e)
		}
		if o, _ := x.Get(nil); !equal(o, labelled(box(), l)) {
			t.Errorf("%v", o)
		}
	}
}

func TestSetErrors(t *testing.T) {
	root, _ := sample(t).Get(nil)
	other := func(change func(o *api.Object)) api.Object {
		o := Copy(root)
		change(&o)
		return o
	}
	type set struct {
		p []int
		o api.Object
		e api.Errno
	}
	l := []set{
		{[]int{1}, segment(15), api.ErrQuota}, {[]int{1}, segment(256), api.ErrQuota}, {[]int{0, 2}, segment(25), api.ErrQuota},
		{[]int{0, 0, 0, 0}, labelled(segment(51), lb("1/0=3")), api.ErrQuota},
		{[]int{2}, api.Object{Kind: 3, Own: catsFrom(6)}, api.ErrQuota},
		{[]int{3}, api.Object{Kind: 4, Own: catsFrom(6), Entry: entries(2)}, api.ErrQuota}, {[]int{3}, api.Object{Kind: 4, Entry: entries(5)}, api.ErrQuota},
		{[]int{1}, box(), api.ErrKind}, {[]int{1}, api.Object{}, api.ErrKind}, {[]int{1}, api.Object{Kind: 6}, api.ErrKind}, {[]int{1}, api.Object{Kind: -1}, api.ErrKind},
		{nil, segment(1), api.ErrKind}, {nil, api.Object{}, api.ErrKind}, {[]int{2}, api.Object{Kind: 4}, api.ErrKind}, {[]int{0, 1}, api.Object{Kind: 5}, api.ErrKind},
		// Other kids, or another Next.
		{nil, box(), api.ErrArg}, {nil, other(func(o *api.Object) { o.Next++ }), api.ErrArg}, {nil, other(func(o *api.Object) { o.Next = 1<<20 + 1 }), api.ErrArg}, {nil, other(func(o *api.Object) { o.Next-- }), api.ErrArg},
		{nil, other(func(o *api.Object) { o.Kids = o.Kids[:4] }), api.ErrArg}, {nil, other(func(o *api.Object) { o.Kids = o.Kids[1:] }), api.ErrArg}, {nil, other(func(o *api.Object) { o.Kids = nil }), api.ErrArg},
		{nil, other(func(o *api.Object) { o.Kids[1].Quota++ }), api.ErrArg}, {nil, other(func(o *api.Object) { o.Kids[1].Quota = 19 }), api.ErrArg}, {nil, other(func(o *api.Object) { o.Kids[4].Kind = 2 }), api.ErrArg},
		{nil, other(func(o *api.Object) { o.Next, o.Kids = 6, append(o.Kids, api.Kid{N: 5, Kind: 2, Quota: 20}) }), api.ErrArg},
		{nil, other(func(o *api.Object) { o.Next, o.Kids[4].N = 6, 5 }), api.ErrArg},
		{[]int{0, 1}, api.Object{Kind: 1, Next: 1}, api.ErrArg}, {[]int{0, 1}, api.Object{Kind: 1, Next: 1, Kids: kids(1)}, api.ErrArg},
		{[]int{0, 1}, api.Object{Kind: 1, Kids: kids(1)}, api.ErrArg},
		// Two at once.
		{[]int{1}, api.Object{Kind: 1, Bytes: []byte("x")}, api.ErrKind}, {[]int{1}, labelled(box(), lb("1/0=0")), api.ErrKind}, {[]int{1}, api.Object{Kind: 3, Own: catsFrom(8)}, api.ErrKind}, {[]int{1}, api.Object{Kind: 3, Cats: -1}, api.ErrKind},
		{[]int{1}, segment(257), api.ErrArg}, {[]int{1}, labelled(segment(100), lb("1/0=0")), api.ErrArg}, {[]int{1}, labelled(segment(100), lb("1/0=1")), api.ErrArg},
		{[]int{4}, api.Object{Kind: 5, Maps: mapped(5)}, api.ErrArg}, {[]int{2}, api.Object{Kind: 3, Own: catsFrom(9)}, api.ErrArg}, {[]int{2}, api.Object{Kind: 3, Own: catsFrom(8), Cats: -1}, api.ErrArg},
		{nil, other(func(o *api.Object) { o.Kids[0].Quota = 1 << 20 }), api.ErrArg},
		{[]int{0, 1}, api.Object{Kind: 1, Next: 1, Kids: []api.Kid{{N: 0, Kind: 1, Quota: 999}}}, api.ErrArg},
	}
	for _, p := range missing() {
		for _, o := range []api.Object{segment(1), box(), {}, segment(257), segment(256), labelled(segment(1), lb("1/0=0"))} {
			l = append(l, set{p, o, api.ErrName})
		}
	}
	where := map[int][]int{1: {0, 1}, 2: {1}, 3: {2}, 4: {3}, 5: {4}}
	for _, o := range wrongObjects() {
		if p, ok := where[o.Kind]; ok {
			l = append(l, set{p, o, api.ErrArg})
		} else {
			l = append(l, set{[]int{1}, o, api.ErrKind})
		}
	}
	for _, s := range l {
		x := sample(t)
		before := x.Bytes()
		if e := x.Set(s.p, s.o); e != s.e {
			t.Errorf("%v, %v: %v, not %v", s.p, s.o, e, s.e)
		}
		checkSame(t, "Set", x, before)
	}
}

// The usage is exactly at the quota, and one beyond it.
func TestSetAtQuota(t *testing.T) {
	for n := range 256 {
		x := New()
		mustAdd(t, x, "", segment(0), 16+n)
		if e := x.Set([]int{0}, segment(n+1)); e != api.ErrQuota {
			t.Errorf("%d bytes: %v", n+1, e)
		}
		if e := x.Set([]int{0}, segment(n)); e != api.OK {
			t.Errorf("%d bytes: %v", n, e)
		}
	}
}

// P9.3

// checkAdd checks what Add returns.
func checkAdd(t *testing.T, x *Table, p []int, o api.Object, quota, n int, e api.Errno) {
	t.Helper()
	before := x.Bytes()
	if m, f := x.Add(p, o, quota); m != n || f != e {
		t.Errorf("%v, %v, %d: %d %v, not %d %v", p, o, quota, m, f, n, e)
	}
	if e != api.OK {
		checkSame(t, "Add", x, before)
	}
}

func TestAdd(t *testing.T) {
	x := New()
	checkAdd(t, x, nil, segment(3), 18, -1, api.ErrQuota)
	checkAdd(t, x, nil, segment(3), 19, 0, api.OK)
	if o, ok := x.Get([]int{0}); !ok || !equal(o, segment(3)) {
		t.Errorf("%v %v", o, ok)
	}
	root := api.Object{Kind: 1, Next: 1, Kids: []api.Kid{{N: 0, Kind: 2, Quota: 19}}}
	if o, _ := x.Get(nil); !equal(o, root) {
		t.Errorf("%v", o)
	}
	if x.Quota([]int{0}) != 19 || x.Quota(nil) != 1<<20 {
		t.Errorf("%d %d", x.Quota([]int{0}), x.Quota(nil))
	}
}

// Each valid object without Kids and Next can be added, and no other one.
func TestAddObjects(t *testing.T) {
	for _, o := range anyObjects() {
		x := New()
		if !isObject(o) || len(o.Kids) > 0 || o.Next != 0 {
			checkAdd(t, x, nil, o, 1000, -1, api.ErrArg)
			continue
		}
		if !label.Flows(nil, o.Label) {
			checkAdd(t, x, nil, o, 1000, -1, api.ErrLabel)
			continue
		}
		checkAdd(t, x, nil, o, usage(o)-1, -1, api.ErrQuota)
		checkAdd(t, x, nil, o, usage(o), 0, api.OK)
		checkAdd(t, x, nil, o, 1000, 1, api.OK)
		for _, p := range [][]int{{0}, {1}} {
			if got, ok := x.Get(p); !ok || !equal(got, o) {
				t.Errorf("%v: %v", o, got)
			}
		}
		if list, _ := x.Get(nil); !slices.Equal(list.Kids, []api.Kid{{N: 0, Kind: o.Kind, Quota: usage(o)}, {N: 1, Kind: o.Kind, Quota: 1000}}) || list.Next != 2 {
			t.Errorf("%v: %v", o, list)
		}
	}
}

func TestAddQuotas(t *testing.T) {
	for _, quota := range wrongNumbers(1 << 20) {
		checkAdd(t, New(), nil, box(), quota, -1, api.ErrArg)
	}
	for _, quota := range []int{0, 1, 15, 1 << 20, 1<<20 - 15} {
		checkAdd(t, New(), nil, box(), quota, -1, api.ErrQuota)
	}
	for _, quota := range []int{16, 17, 1<<20 - 16} {
		checkAdd(t, New(), nil, box(), quota, 0, api.OK)
	}
}

// A container gives all of its quota, and no more, whatever it gave before.
func TestAddUpToQuota(t *testing.T) {
	for _, most := range []int{16, 32, 100, 1000} {
		x := New()
		mustAdd(t, x, "", box(), most)
		left := most - 16
		for _, quota := range []int{20, 17, 30} {
			if quota > left {
				checkAdd(t, x, []int{0}, box(), quota, -1, api.ErrQuota)
				continue
			}
			mustAdd(t, x, "0", box(), quota)
			left -= quota
		}
		checkAdd(t, x, []int{0}, box(), left+1, -1, api.ErrQuota)
		if _, e := x.Add([]int{0}, box(), left); (e == api.OK) != (left >= 16) {
			t.Errorf("%d of %d left: %v", left, most, e)
		}
	}
}

func TestAddLabels(t *testing.T) {
	labels := []api.Label{nil, lb("1/0=0"), lb("1/0=2"), lb("1/0=3"), lb("2/0=3"), lb("1/0=2,2/0=2"), lb("1/0=3,2/0=0"), entries(8)}
	for _, l := range labels {
		for _, m := range labels {
			x := table(t, map[string]api.Object{"": labelled(box(), l)})
			if label.Flows(l, m) {
				checkAdd(t, x, nil, labelled(segment(1), m), 100, 0, api.OK)
			} else {
				checkAdd(t, x, nil, labelled(segment(1), m), 100, -1, api.ErrLabel)
			}
		}
	}
}

// chain returns a table with a container in a container, n of them below the root, each with 20 less than the one above it.
func chain(t *testing.T, n int) *Table {
	t.Helper()
	x := New()
	for i := range n {
		mustAdd(t, x, path.Text(make([]int, i)), box(), 1000-20*i)
	}
	return x
}

func TestAddDepth(t *testing.T) {
	for n := range 6 {
		x := chain(t, n)
		checkAdd(t, x, make([]int, n), segment(1), 17, 0, api.OK)
		if _, ok := x.Get(make([]int, n+1)); !ok {
			t.Errorf("%d", n)
		}
	}
	deep := make([]int, 6)
	x := chain(t, 6)
	checkAdd(t, x, deep, segment(1), 17, -1, api.ErrName)
	checkAdd(t, x, deep, box(), 16, -1, api.ErrName)
	checkAdd(t, x, deep, box(), 0, -1, api.ErrName)
	checkAdd(t, x, make([]int, 7), box(), 16, -1, api.ErrName)
	// The others are named before it.
	checkAdd(t, x, deep, segment(257), 300, -1, api.ErrArg)
	checkAdd(t, x, deep, box(), -1, -1, api.ErrArg)
	checkAdd(t, x, deep, labelled(box(), lb("1/0=0")), 16, -1, api.ErrLabel)
	x = chain(t, 5)
	mustAdd(t, x, "0.0.0.0.0", segment(1), 17)
	checkAdd(t, x, deep, box(), 16, -1, api.ErrKind)
}

// full returns a root with 16 kids, with this Next.
func full(t *testing.T, next int) *Table {
	t.Helper()
	objects := map[string]api.Object{}
	root := api.Object{Kind: 1, Next: next}
	for i := range 16 {
		root.Kids = append(root.Kids, api.Kid{N: i, Kind: 2, Quota: 100})
		objects[strconv.Itoa(i)] = segment(i)
	}
	objects[""] = root
	return table(t, objects)
}

func TestAddFull(t *testing.T) {
	x := New()
	for i := range 16 {
		checkAdd(t, x, nil, box(), 20, i, api.OK)
	}
	for range 3 {
		checkAdd(t, x, nil, box(), 20, -1, api.ErrFull)
	}
	// There is room again, for other numbers.
	for _, n := range []int{3, 15, 0} {
		if removed, e := x.Remove([]int{n}); removed != 1 || e != api.OK {
			t.Errorf("%d %v", removed, e)
		}
	}
	for n := 16; n < 19; n++ {
		checkAdd(t, x, nil, box(), 20, n, api.OK)
	}
	checkAdd(t, x, nil, box(), 20, -1, api.ErrFull)
	want := []int{1, 2, 4, 5, 6, 7, 8, 9, 10, 11, 12, 13, 14, 16, 17, 18}
	o, _ := x.Get(nil)
	for i, k := range o.Kids {
		if k.N != want[i] {
			t.Errorf("%v", o.Kids)
		}
	}
}

func TestAddSpent(t *testing.T) {
	x := table(t, map[string]api.Object{"": {Kind: 1, Next: 1<<20 - 1}})
	checkAdd(t, x, nil, box(), 20, 1<<20-1, api.OK)
	checkAdd(t, x, nil, box(), 20, 1<<20, api.OK)
	checkAdd(t, x, nil, box(), 20, -1, api.ErrSpent)
	if o, _ := x.Get(nil); o.Next != 1<<20+1 || len(o.Kids) != 2 {
		t.Errorf("%v", o)
	}
	// A number that was given is not given again.
	if n, e := x.Remove([]int{1 << 20}); n != 1 || e != api.OK {
		t.Errorf("%d %v", n, e)
	}
	checkAdd(t, x, nil, box(), 20, -1, api.ErrSpent)
	// Its kid is another container.
	checkAdd(t, x, []int{1<<20 - 1}, box(), 20, -1, api.ErrQuota)
	if e := x.Allot([]int{1<<20 - 1}, 50); e != api.OK {
		t.Errorf("%v", e)
	}
	checkAdd(t, x, []int{1<<20 - 1}, box(), 20, 0, api.OK)
}

// If two errors apply, the first named one is returned.
func TestAddErrors(t *testing.T) {
	low := labelled(box(), lb("1/0=0"))
	for _, p := range missing() {
		for _, o := range []api.Object{box(), {}, low, segment(257)} {
			for _, quota := range []int{16, -1, 0, 1<<20 + 1} {
				checkAdd(t, sample(t), p, o, quota, -1, api.ErrName)
			}
		}
	}
	for _, text := range []string{"1", "2", "3", "4", "0.2"} {
		for _, o := range []api.Object{box(), {}, low, segment(257)} {
			for _, quota := range []int{16, -1, 0, 1<<20 + 1} {
				checkAdd(t, sample(t), at(text), o, quota, -1, api.ErrKind)
			}
		}
	}
	for _, x := range []*Table{sample(t), full(t, 16), full(t, 1<<20+1), table(t, map[string]api.Object{"": {Kind: 1, Next: 1<<20 + 1}})} {
		for _, o := range wrongObjects() {
			checkAdd(t, x, nil, o, 20, -1, api.ErrArg)
			checkAdd(t, x, nil, labelled(o, lb("1/0=0")), 20, -1, map[bool]api.Errno{true: api.ErrLabel, false: api.ErrArg}[isObject(labelled(o, lb("1/0=0")))])
		}
		checkAdd(t, x, nil, api.Object{Kind: 1, Next: 1}, 20, -1, api.ErrArg)
		checkAdd(t, x, nil, api.Object{Kind: 1, Next: 1, Kids: kids(1)}, 20, -1, api.ErrArg)
		checkAdd(t, x, nil, box(), -1, -1, api.ErrArg)
		checkAdd(t, x, nil, box(), 1<<20+1, -1, api.ErrArg)
		checkAdd(t, x, nil, low, -1, -1, api.ErrArg)
		checkAdd(t, x, nil, low, 1<<20+1, -1, api.ErrArg)
		checkAdd(t, x, nil, low, 100, -1, api.ErrLabel)
		checkAdd(t, x, nil, low, 0, -1, api.ErrLabel)
		checkAdd(t, x, nil, low, 1<<20, -1, api.ErrLabel)
	}
	for _, quota := range []int{0, 16, 1 << 20} {
		checkAdd(t, full(t, 16), nil, box(), quota, -1, api.ErrFull)
		checkAdd(t, full(t, 1<<20+1), nil, box(), quota, -1, api.ErrFull)
		spent := table(t, map[string]api.Object{"": {Kind: 1, Next: 1<<20 + 1}})
		checkAdd(t, spent, nil, box(), quota, -1, api.ErrSpent)
	}
}

// A container at six numbers whose Next is spent, or that has no quota left.
func TestAddAtSixNumbers(t *testing.T) {
	objects := objectsOf(t, chain(t, 6))
	deep := objects["0.0.0.0.0.0"]
	deep.Next = 1<<20 + 1
	objects["0.0.0.0.0.0"] = deep
	x := table(t, objects)
	for _, quota := range []int{0, 16, 1 << 20} {
		checkAdd(t, x, make([]int, 6), box(), quota, -1, api.ErrName)
	}
	checkAdd(t, x, make([]int, 6), labelled(box(), lb("1/0=0")), 16, -1, api.ErrLabel)
}

// checkAllot checks what Allot returns, and that it changes one quota alone.
func checkAllot(t *testing.T, x *Table, p []int, quota int, e api.Errno) {
	t.Helper()
	before, objects := x.Bytes(), objectsOf(t, x)
	if f := x.Allot(p, quota); f != e {
		t.Errorf("%v, %d: %v, not %v", p, quota, f, e)
	}
	if e != api.OK {
		checkSame(t, "Allot", x, before)
		return
	}
	above, n, _ := path.Parent(p)
	box := objects[path.Text(above)]
	for i, k := range box.Kids {
		if k.N == n {
			box.Kids[i].Quota = quota
		}
	}
	if x.Quota(p) != quota {
		t.Errorf("%v: %d, not %d", p, x.Quota(p), quota)
	}
	for text, o := range objectsOf(t, x) {
		if !equal(o, objects[text]) {
			t.Errorf("%v, %d: %q is %v", p, quota, text, o)
		}
	}
}

func TestAllot(t *testing.T) {
	// 0 uses 756 of 1000.
	for _, a := range []struct {
		text  string
		quota int
		e     api.Errno
	}{
		{"0", 1000, api.OK}, {"0", 756, api.OK}, {"0", 755, api.ErrQuota}, {"0", 0, api.ErrQuota}, {"0", 1<<20 - 16 - 300, api.OK}, {"0", 1<<20 - 16 - 299, api.ErrQuota}, {"0", 1 << 20, api.ErrQuota},
		{"0.0", 116, api.OK}, {"0.0", 115, api.ErrQuota}, {"0.0", 744, api.OK}, {"0.0", 745, api.ErrQuota},
		{"0.1", 16, api.OK}, {"0.1", 15, api.ErrQuota}, {"0.1", 444, api.OK}, {"0.1", 445, api.ErrQuota}, {"0.1", 1 << 20, api.ErrQuota},
		{"0.2", 20, api.OK}, {"0.2", 19, api.ErrQuota}, {"0.2", 284, api.OK}, {"0.2", 285, api.ErrQuota},
		{"0.0.0", 82, api.OK}, {"0.0.0", 81, api.ErrQuota}, {"0.0.0", 484, api.OK}, {"0.0.0", 485, api.ErrQuota},
		{"0.0.0.0", 66, api.OK}, {"0.0.0.0", 65, api.ErrQuota}, {"0.0.0.0", 84, api.OK}, {"0.0.0.0", 85, api.ErrQuota},
		{"1", 19, api.OK}, {"1", 18, api.ErrQuota}, {"1", 1<<20 - 16 - 1270, api.OK}, {"1", 1<<20 - 16 - 1269, api.ErrQuota},
		{"2", 24, api.OK}, {"2", 23, api.ErrQuota}, {"3", 40, api.OK}, {"3", 39, api.ErrQuota}, {"4", 64, api.OK}, {"4", 63, api.ErrQuota},
	} {
		checkAllot(t, sample(t), at(a.text), a.quota, a.e)
	}
}

func TestAllotErrors(t *testing.T) {
	for _, quota := range append(wrongNumbers(1<<20), 0, 16, 100, 1<<20) {
		checkAllot(t, sample(t), nil, quota, api.ErrArg)
		checkAllot(t, sample(t), []int{}, quota, api.ErrArg)
		for _, p := range missing() {
			checkAllot(t, sample(t), p, quota, api.ErrName)
		}
	}
	for _, quota := range wrongNumbers(1 << 20) {
		for _, text := range samplePaths() {
			checkAllot(t, sample(t), at(text), quota, api.ErrArg)
		}
	}
}

// What is allotted can be used, and no more.
func TestAllotCounts(t *testing.T) {
	x := sample(t)
	checkAllot(t, x, at("1"), 31, api.OK)
	if e := x.Set(at("1"), segment(15)); e != api.OK {
		t.Errorf("%v", e)
	}
	if e := x.Set(at("1"), segment(16)); e != api.ErrQuota {
		t.Errorf("%v", e)
	}
	checkAllot(t, x, at("1"), 30, api.ErrQuota)
	checkAllot(t, x, at("0.1"), 444, api.OK)
	checkAdd(t, x, at("0"), box(), 16, -1, api.ErrQuota)
	checkAllot(t, x, at("0.1"), 428, api.OK)
	checkAdd(t, x, at("0"), box(), 16, 3, api.OK)
	checkAdd(t, x, at("0.1"), box(), 413, -1, api.ErrQuota)
	checkAdd(t, x, at("0.1"), box(), 412, 0, api.OK)
	checkAllot(t, x, at("0.1"), 427, api.ErrQuota)
}

func TestRemove(t *testing.T) {
	for _, x := range []struct {
		text string
		n    int
		left []string
	}{
		{"0", 6, []string{"", "1", "2", "3", "4"}},
		{"0.0", 3, []string{"", "0", "0.1", "0.2", "1", "2", "3", "4"}},
		{"0.0.0", 2, []string{"", "0", "0.0", "0.1", "0.2", "1", "2", "3", "4"}},
		{"0.0.0.0", 1, []string{"", "0", "0.0", "0.0.0", "0.1", "0.2", "1", "2", "3", "4"}},
		{"0.1", 1, []string{"", "0", "0.0", "0.0.0", "0.0.0.0", "0.2", "1", "2", "3", "4"}},
		{"1", 1, []string{"", "0", "0.0", "0.0.0", "0.0.0.0", "0.1", "0.2", "2", "3", "4"}},
		{"4", 1, []string{"", "0", "0.0", "0.0.0", "0.0.0.0", "0.1", "0.2", "1", "2", "3"}},
	} {
		s := sample(t)
		want := objectsOf(t, s)
		above, n, _ := path.Parent(at(x.text))
		box := want[path.Text(above)]
		box.Kids = slices.DeleteFunc(box.Kids, func(k api.Kid) bool { return k.N == n })
		want[path.Text(above)] = box
		if n, e := s.Remove(at(x.text)); n != x.n || e != api.OK {
			t.Errorf("%q: %d %v, not %d", x.text, n, e, x.n)
		}
		var texts []string
		for _, p := range s.Paths() {
			texts = append(texts, path.Text(p))
		}
		if !slices.Equal(texts, x.left) {
			t.Errorf("%q: %q are left", x.text, texts)
		}
		for text, o := range objectsOf(t, s) {
			if !equal(o, want[text]) {
				t.Errorf("%q: %q is %v, not %v", x.text, text, o, want[text])
			}
		}
		if _, ok := s.Get(at(x.text)); ok || s.Quota(at(x.text)) != -1 {
			t.Errorf("%q is still there", x.text)
		}
		if n, e := s.Remove(at(x.text)); n != 0 || e != api.ErrName {
			t.Errorf("%q again: %d %v", x.text, n, e)
		}
	}
}

func TestRemoveErrors(t *testing.T) {
	x := sample(t)
	before := x.Bytes()
	for _, p := range missing() {
		if n, e := x.Remove(p); n != 0 || e != api.ErrName {
			t.Errorf("%v: %d %v", p, n, e)
		}
	}
	for _, root := range [][]int{nil, {}} {
		if n, e := x.Remove(root); n != 0 || e != api.ErrArg {
			t.Errorf("%d %v", n, e)
		}
	}
	checkSame(t, "Remove", x, before)
}

// What was removed is not there again in a new object with other kids, and gives its quota back.
func TestRemoveForGood(t *testing.T) {
	x := sample(t)
	for number := 5; number < 300; number++ {
		checkAdd(t, x, nil, box(), 1<<20-16-1300, number, api.OK)
		checkAdd(t, x, nil, box(), 16, -1, api.ErrQuota)
		mustAdd(t, x, strconv.Itoa(number), box(), 100)
		if n, e := x.Remove([]int{number}); n != 2 || e != api.OK {
			t.Fatalf("%d: %d %v", number, n, e)
		}
	}
	o, _ := x.Get(nil)
	if len(o.Kids) != 5 || o.Next != 300 || len(x.Paths()) != 11 {
		t.Errorf("%v, %d objects", o, len(x.Paths()))
	}
}

// P9.4

// texts returns the texts of paths.
func texts(paths [][]int) []string {
	var l []string
	for _, p := range paths {
		l = append(l, path.Text(p))
	}
	return l
}

// wide returns a table whose paths have another order than their texts.
func wide(t *testing.T) *Table {
	t.Helper()
	objects := map[string]api.Object{"": {Kind: 1, Next: 1<<20 + 1}}
	for _, n := range []int{1, 2, 9, 10, 11, 100, 1 << 20} {
		root := objects[""]
		root.Kids = append(root.Kids, api.Kid{N: n, Kind: 1, Quota: 200})
		objects[""] = root
		inner := api.Object{Kind: 1, Next: 101}
		for _, m := range []int{0, 3, 20, 100} {
			inner.Kids = append(inner.Kids, api.Kid{N: m, Kind: 2, Quota: 20})
			objects[path.Text([]int{n, m})] = segment(m % 5)
		}
		objects[strconv.Itoa(n)] = inner
	}
	return table(t, objects)
}

func TestPaths(t *testing.T) {
	if l := texts(sample(t).Paths()); !slices.Equal(l, samplePaths()) {
		t.Errorf("%q", l)
	}
	var want []string
	for _, n := range []string{"1", "2", "9", "10", "11", "100", "1048576"} {
		want = append(want, n, n+".0", n+".3", n+".20", n+".100")
	}
	want = slices.Concat([]string{""}, want)
	x := wide(t)
	for range 20 {
		l := texts(x.Paths())
		if !slices.Equal(l, want) {
			t.Fatalf("%q", l)
		}
	}
	if slices.IsSorted(want) {
		t.Errorf("the texts have the same order")
	}
}

// checkDiffers checks that two tables are equal before change and differ after it, and that the second one stays.
func checkDiffers(t *testing.T, x, y *Table, what string, change func(x *Table)) {
	t.Helper()
	before := objectsOf(t, y)
	b := y.Bytes()
	if !bytes.Equal(x.Bytes(), b) {
		t.Fatalf("%s: they are not equal", what)
	}
	change(x)
	if bytes.Equal(x.Bytes(), b) {
		t.Errorf("%s: nothing has changed", what)
	}
	checkSame(t, what, y, b)
	for text, o := range objectsOf(t, y) {
		if !equal(o, before[text]) {
			t.Errorf("%s: %q is %v, not %v", what, text, o, before[text])
		}
	}
}

func TestClone(t *testing.T) {
	changes := map[string]func(x *Table){
		"set":           func(x *Table) { x.Set(at("1"), segment(9)) },
		"set label":     func(x *Table) { x.Set(at("0.1"), labelled(box(), lb("1/0=2"))) },
		"add":           func(x *Table) { mustAdd(t, x, "", segment(1), 20) },
		"add below":     func(x *Table) { mustAdd(t, x, "0.1", segment(1), 20) },
		"allot":         func(x *Table) { x.Allot(at("0.1"), 100) },
		"remove first":  func(x *Table) { x.Remove(at("0")) },
		"remove middle": func(x *Table) { x.Remove(at("0.1")) },
		"remove last":   func(x *Table) { x.Remove(at("4")) },
		"remove deep":   func(x *Table) { x.Remove(at("0.0.0")) },
	}
	for what, change := range changes {
		x := sample(t)
		checkDiffers(t, x, x.Clone(), what, change)
		y := sample(t)
		checkDiffers(t, y.Clone(), y, what+" in the clone", change)
		// Both have changed alike, so that room in shared lists would be used by both.
		z := sample(t)
		c := z.Clone()
		mustAdd(t, z, "", segment(1), 30)
		mustAdd(t, c, "", api.Object{Kind: 3}, 40)
		if a, _ := z.Get([]int{5}); !equal(a, segment(1)) || z.Quota([]int{5}) != 30 {
			t.Errorf("%v", a)
		}
		if a, _ := c.Get([]int{5}); a.Kind != 3 || c.Quota([]int{5}) != 40 {
			t.Errorf("%v", a)
		}
	}
}

// encodedTable returns the encoding of objects with their paths, in this order.
func encodedTable(order []string, objects map[string]api.Object) []byte {
	b := numbers(len(order))
	for _, text := range order {
		p := at(text)
		b = append(b, numbers(len(p))...)
		b = append(b, numbers(p...)...)
		b = append(b, encoded(objects[text])...)
	}
	return b
}

// inOrder returns the keys of objects, all of which are texts of paths, in the order of paths.
func inOrder(objects map[string]api.Object) []string {
	var l [][]int
	for text := range objects {
		l = append(l, at(text))
	}
	slices.SortFunc(l, path.Compare)
	return texts(l)
}

func TestBytes(t *testing.T) {
	if b := New().Bytes(); string(b) != "\x01\x00\x01\x00\x00\x00\x00\x00\x00\x00\x00\x00" {
		t.Errorf("%q", b)
	}
	x := New()
	mustAdd(t, x, "", labelled(segment(2), lb("1/0=3")), 300)
	want := "\x02" + "\x00\x01\x00\x01\x00\x02\xac\x02\x01\x00\x00\x00\x00\x00\x00" + "\x01\x00\x02\x01\x031/0\x03\x00\x00\x02xx\x00\x00\x00\x00\x00"
	if b := x.Bytes(); string(b) != want {
		t.Errorf("%q, not %q", b, want)
	}
	for _, x := range []*Table{sample(t), wide(t), chain(t, 6), full(t, 1<<20+1)} {
		objects := objectsOf(t, x)
		want := encodedTable(inOrder(objects), objects)
		for range 20 {
			if !bytes.Equal(x.Bytes(), want) {
				t.Fatalf("%q, not %q", x.Bytes(), want)
			}
		}
	}
}

// isTable is the document's definition of a valid table.
func isTable(objects map[string]api.Object) bool {
	root, ok := objects[""]
	if !ok || root.Kind != 1 {
		return false
	}
	for text, o := range objects {
		p, ok := path.Parse(text)
		if !ok || !isObject(o) {
			return false
		}
		for _, k := range o.Kids {
			child, ok := path.Child(p, k.N)
			if !ok {
				return false
			}
			kid, ok := objects[path.Text(child)]
			if !ok || kid.Kind != k.Kind || usage(kid) > k.Quota || !label.Flows(o.Label, kid.Label) {
				return false
			}
		}
		if above, n, ok := path.Parent(p); ok {
			lists := func(k api.Kid) bool { return k.N == n }
			if !slices.ContainsFunc(objects[path.Text(above)].Kids, lists) {
				return false
			}
		}
	}
	return usage(root) <= 1<<20
}

// checkOf checks what Of and Load make of objects.
func checkOf(t *testing.T, what string, objects map[string]api.Object, right bool) {
	t.Helper()
	if isTable(objects) != right {
		t.Errorf("%s: the test is wrong", what)
	}
	x, e := Of(objects)
	checkMade(t, what, x, e, objects, right)
	for text := range objects {
		if _, ok := path.Parse(text); !ok {
			return
		}
	}
	y, e := Load(encodedTable(inOrder(objects), objects))
	checkMade(t, what+" loaded", y, e, objects, right)
}

// checkMade checks a table with its error.
func checkMade(t *testing.T, what string, x *Table, e api.Errno, objects map[string]api.Object, right bool) {
	t.Helper()
	if !right {
		if x != nil || e != api.ErrForm {
			t.Errorf("%s: %v", what, e)
		}
		return
	}
	if x == nil || e != api.OK {
		t.Errorf("%s: %v", what, e)
		return
	}
	got := objectsOf(t, x)
	if !maps.EqualFunc(got, objects, equal) || len(x.Paths()) != len(objects) {
		t.Errorf("%s: %v, not %v", what, got, objects)
	}
}

func TestOf(t *testing.T) {
	for what, x := range map[string]*Table{"new": New(), "sample": sample(t), "wide": wide(t), "chain": chain(t, 6), "full": full(t, 1<<20+1)} {
		checkOf(t, what, objectsOf(t, x), true)
	}
}

func TestOfNothing(t *testing.T) {
	checkOf(t, "nil", nil, false)
	checkOf(t, "empty", map[string]api.Object{}, false)
}

// The root alone, which must be a container.
func TestOfRoot(t *testing.T) {
	for kind := range 7 {
		checkOf(t, "a root", map[string]api.Object{"": {Kind: kind}}, kind == 1)
		checkOf(t, "no root", map[string]api.Object{"0": {Kind: kind}}, false)
	}
}

// A table of a root and what is given, where the root lists it.
func TestOfKids(t *testing.T) {
	for _, o := range anyObjects() {
		if len(o.Kids) > 0 {
			continue
		}
		for kind := range 7 {
			for _, quota := range []int{-1, 0, usage(o) - 1, usage(o), 1 << 20, 1<<20 - 16, 1<<20 + 1} {
				objects := map[string]api.Object{"": {Kind: 1, Next: 8, Kids: []api.Kid{{N: 7, Kind: kind, Quota: quota}}}, "7": o}
				right := isObject(o) && o.Kind == kind && quota >= usage(o) && quota <= 1<<20-16 && label.Flows(nil, o.Label)
				checkOf(t, "a kid", objects, right)
			}
		}
	}
}

// changed returns a copy of objects in which one is changed.
func changed(objects map[string]api.Object, text string, change func(o *api.Object)) map[string]api.Object {
	c := map[string]api.Object{}
	for key, o := range objects {
		c[key] = Copy(o)
	}
	o := c[text]
	change(&o)
	c[text] = o
	return c
}

// Each way in which a table is not valid.
func TestOfWrong(t *testing.T) {
	good := objectsOf(t, sample(t))
	for _, text := range samplePaths() {
		lost := maps.Clone(good)
		delete(lost, text)
		checkOf(t, "without "+text, lost, false)
		checkOf(t, "another Kind of "+text, changed(good, text, func(o *api.Object) { *o = api.Object{Kind: o.Kind%5 + 1, Label: o.Label} }), false)
		checkOf(t, "Kind 0 of "+text, changed(good, text, func(o *api.Object) { *o = api.Object{} }), false)
		for _, bad := range wrongLabels() {
			checkOf(t, "a wrong label of "+text, changed(good, text, func(o *api.Object) { o.Label = bad }), false)
		}
	}
	for _, text := range []string{"5", "0.3", "0.0.1", "0.1.0", "1.0", "2.0", "0.0.0.0.0", "5.0", "9.9.9.9.9.9", "1048576"} {
		for _, o := range []api.Object{box(), segment(0), {Kind: 3}} {
			checkOf(t, "unlisted "+text, changed(good, text, func(kid *api.Object) { *kid = o }), false)
		}
	}
	for _, text := range []string{"00", "x", "-1", " ", ".", "0.", ".0", "01", "1048577", "0.0.0.0.0.0.0", "+1", "0/0", "\xff"} {
		checkOf(t, "no path: "+text, changed(good, text, func(kid *api.Object) { *kid = segment(0) }), false)
	}
	for _, text := range []string{"", "0", "0.0", "0.0.0", "0.1"} {
		for _, kid := range []api.Kid{{N: 10, Kind: 2, Quota: 16}, {N: 10, Kind: 1, Quota: 16}, {N: 1 << 20, Kind: 5}} {
			checkOf(t, "no kid below "+text, changed(good, text, func(o *api.Object) { o.Kids, o.Next = append(o.Kids, kid), 1<<20+1 }), false)
		}
		checkOf(t, "a Next too great of "+text, changed(good, text, func(o *api.Object) { o.Next = 1<<20 + 2 }), false)
		checkOf(t, "the greatest Next of "+text, changed(good, text, func(o *api.Object) { o.Next = 1<<20 + 1 }), true)
	}
	for _, x := range []struct {
		text   string
		change func(o *api.Object)
		right  bool
	}{
		{"", func(o *api.Object) { o.Label = lb("1/0=2") }, false},
		{"", func(o *api.Object) { o.Label = lb("1/0=0") }, true},
		{"0.0", func(o *api.Object) { o.Label = lb("1/0=3") }, true},
		{"0.0", func(o *api.Object) { o.Label = lb("1/0=0") }, false},
		{"0.0.0", func(o *api.Object) { o.Label = nil }, false},
		{"0.0.0.0", func(o *api.Object) { o.Label = lb("1/0=2") }, false},
		{"0.0.0.0", func(o *api.Object) { o.Label = lb("1/0=3,9/0=3") }, true},
		{"0.0.0.0", func(o *api.Object) { o.Bytes = make([]byte, 51) }, false},
		{"1", func(o *api.Object) { o.Bytes = make([]byte, 14) }, true},
		{"1", func(o *api.Object) { o.Bytes = make([]byte, 15) }, false},
		{"1", func(o *api.Object) { o.Bytes, o.Cats = nil, 1 }, false},
		{"", func(o *api.Object) { o.Kids[1].Quota = 18 }, false},
		{"", func(o *api.Object) { o.Kids[1].Quota = 19 }, true},
		{"", func(o *api.Object) { o.Kids[0].Quota = 755 }, false},
		{"", func(o *api.Object) { o.Kids[0].Quota = 756 }, true},
		{"", func(o *api.Object) { o.Kids[0].Quota = 1<<20 - 16 - 300 }, true},
		{"", func(o *api.Object) { o.Kids[0].Quota = 1<<20 - 16 - 299 }, false},
		{"", func(o *api.Object) { o.Kids[1].Kind = 3 }, false},
		{"", func(o *api.Object) { o.Kids[1].Kind, o.Kids[2].Kind = 3, 2 }, false},
		{"", func(o *api.Object) { o.Kids = o.Kids[1:] }, false},
		{"", func(o *api.Object) { o.Kids = o.Kids[:4] }, false},
		{"", func(o *api.Object) { o.Kids[0], o.Kids[1] = o.Kids[1], o.Kids[0] }, false},
		{"", func(o *api.Object) { o.Kids = append(o.Kids, o.Kids[4]) }, false},
		{"", func(o *api.Object) { o.Next = 4 }, false},
		{"0", func(o *api.Object) { o.Kids[0].Quota = 744 }, true},
		{"0", func(o *api.Object) { o.Kids[0].Quota = 745 }, false},
	} {
		checkOf(t, x.text, changed(good, x.text, x.change), x.right)
	}
}

// Containers at six numbers can have a Next, but no kids.
func TestOfDepth(t *testing.T) {
	objects := objectsOf(t, chain(t, 6))
	deep := "0.0.0.0.0.0"
	checkOf(t, "a Next", changed(objects, deep, func(o *api.Object) { o.Next = 1 }), true)
	listed := changed(objects, deep, func(o *api.Object) { o.Next, o.Kids = 1, []api.Kid{{N: 0, Kind: 1, Quota: 16}} })
	checkOf(t, "a kid", listed, false)
	listed[deep+".0"] = box()
	checkOf(t, "a kid that is there", listed, false)
	// The root is not its kid, though both have all that is asked for.
	listed = changed(objects, deep, func(o *api.Object) { o.Next, o.Kids = 1, []api.Kid{{N: 0, Kind: 1, Quota: 1 << 20}} })
	checkOf(t, "the root as a kid", listed, false)
}

// One random change of a valid table, which may leave it valid.
func TestOfRandom(t *testing.T) {
	r := rand.New(rand.NewSource(4))
	tables := []map[string]api.Object{objectsOf(t, sample(t)), objectsOf(t, wide(t)), objectsOf(t, chain(t, 6))}
	var found [2]int
	for range 20000 {
		good := tables[r.Intn(3)]
		keys := inOrder(good)
		text := keys[r.Intn(len(keys))]
		objects := changed(good, text, func(o *api.Object) {
			switch r.Intn(8) {
			case 0:
				o.Label = randomLabel(r)
			case 1:
				o.Next = randomNumber(r, 1<<20+1)
			case 2, 3, 4:
				if len(o.Kids) > 0 {
					k := &o.Kids[r.Intn(len(o.Kids))]
					*[]*int{&k.N, &k.Kind, &k.Quota}[r.Intn(3)] += []int{-20, -1, 0, 1, 20}[r.Intn(5)]
				}
			case 5:
				o.Bytes = make([]byte, r.Intn(20))
			case 6:
				o.Kind = 1 + r.Intn(5)
			case 7:
				*o = randomObject(r)
			}
		})
		if r.Intn(20) == 0 {
			delete(objects, keys[r.Intn(len(keys))])
		}
		right := isTable(objects)
		checkOf(t, text, objects, right)
		if right {
			found[1]++
		} else {
			found[0]++
		}
	}
	if found[0] < 2000 || found[1] < 2000 {
		t.Errorf("%v", found)
	}
}

func TestLoad(t *testing.T) {
	for _, x := range []*Table{New(), sample(t), wide(t), chain(t, 6), full(t, 1<<20+1)} {
		b := x.Bytes()
		y, e := Load(b)
		if e != api.OK {
			t.Fatalf("%v", e)
		}
		if !bytes.Equal(y.Bytes(), b) || !maps.EqualFunc(objectsOf(t, x), objectsOf(t, y), equal) {
			t.Errorf("%v, not %v", objectsOf(t, y), objectsOf(t, x))
		}
		for _, p := range x.Paths() {
			if x.Quota(p) != y.Quota(p) {
				t.Errorf("%v: %d, not %d", p, y.Quota(p), x.Quota(p))
			}
		}
	}
}

// checkNoLoad checks that there is no table with this encoding.
func checkNoLoad(t *testing.T, what string, b []byte) {
	t.Helper()
	if x, e := Load(b); x != nil || e != api.ErrForm {
		t.Errorf("%s: %v", what, e)
	}
}

func TestLoadWrong(t *testing.T) {
	for _, x := range []*Table{New(), sample(t), wide(t), full(t, 16)} {
		b := x.Bytes()
		for i := range b {
			checkNoLoad(t, "too short", b[:i])
		}
		for i := range 256 {
			checkNoLoad(t, "a byte left", append(slices.Clone(b), byte(i)))
		}
		checkNoLoad(t, "twice", slices.Concat(b, b))
		checkNoLoad(t, "another number of objects", append([]byte{b[0] + 1}, b[1:]...))
		checkNoLoad(t, "another number of objects", append([]byte{b[0] - 1}, b[1:]...))
		checkNoLoad(t, "a longer number of objects", append([]byte{b[0] + 128, 0}, b[1:]...))
	}
	checkNoLoad(t, "nil", nil)
	checkNoLoad(t, "empty", []byte{})
	checkNoLoad(t, "no objects", []byte{0})
}

func TestLoadOrder(t *testing.T) {
	for _, x := range []*Table{sample(t), wide(t)} {
		objects := objectsOf(t, x)
		order := inOrder(objects)
		for i := range order {
			for k := range i {
				swapped := slices.Clone(order)
				swapped[i], swapped[k] = swapped[k], swapped[i]
				checkNoLoad(t, "swapped", encodedTable(swapped, objects))
			}
			checkNoLoad(t, "twice there", encodedTable(slices.Insert(slices.Clone(order), i, order[i]), objects))
			checkNoLoad(t, "twice there, at the end", encodedTable(append(slices.Clone(order), order[i]), objects))
		}
		byText := slices.Sorted(maps.Keys(objects))
		if slices.Equal(byText, order) != (len(order) == 11) {
			t.Errorf("%q", byText)
		}
		if !slices.Equal(byText, order) {
			checkNoLoad(t, "the order of texts", encodedTable(byText, objects))
		}
	}
}

// Bytes of one object that a tape can have, but no object.
func TestLoadLimits(t *testing.T) {
	wrong := wrongObjects()
	wrong = append(wrong, api.Object{Kind: 2, Next: 5}, api.Object{Kind: 1, Ring: 1}, api.Object{Kind: 4, Label: lb("1/0=300")}, api.Object{Kind: 5, Maps: []api.Map{{Seg: []int{1 << 30}}}})
	long := strings.Repeat("9", 90)
	wrong = append(wrong, api.Object{Kind: 1, Label: api.Label{{Cat: long, Level: 2}}}, api.Object{Kind: 3, Own: []string{long}}, api.Object{Kind: 4, Entry: api.Label{{Cat: long, Level: 2}}})
	for _, o := range wrong {
		checkNoLoad(t, "the root", encodedTable([]string{""}, map[string]api.Object{"": o}))
		objects := map[string]api.Object{"": {Kind: 1, Next: 1, Kids: []api.Kid{{N: 0, Kind: max(1, min(o.Kind, 5)), Quota: 4000}}}, "0": o}
		checkNoLoad(t, "a kid", encodedTable([]string{"", "0"}, objects))
	}
	// A flag that is neither 0 nor 1.
	space := api.Object{Kind: 5, Maps: []api.Map{{At: 3, Write: true}}}
	objects := map[string]api.Object{"": {Kind: 1, Next: 1, Kids: []api.Kid{{N: 0, Kind: 5, Quota: 40}}}, "0": space}
	b := encodedTable([]string{"", "0"}, objects)
	if _, e := Load(b); e != api.OK {
		t.Errorf("%v", e)
	}
	b[len(b)-1] = 2
	checkNoLoad(t, "a flag", b)
}

// What is loaded from any bytes has these bytes.
func TestLoadAnyBytes(t *testing.T) {
	r := rand.New(rand.NewSource(5))
	given := [][]byte{New().Bytes(), sample(t).Bytes(), wide(t).Bytes(), full(t, 16).Bytes()}
	var found [2]int
	for range 60000 {
		b := slices.Clone(given[r.Intn(4)])
		for range r.Intn(3) {
			b[r.Intn(len(b))] = byte(r.Intn([]int{4, 32, 256}[r.Intn(3)]))
		}
		x, e := Load(b)
		if (e != api.OK || x == nil) && (e != api.ErrForm || x != nil) {
			t.Fatalf("%q: %v", b, e)
		}
		if e != api.OK {
			found[0]++
			continue
		}
		found[1]++
		if !bytes.Equal(x.Bytes(), b) || !isTable(objectsOf(t, x)) {
			t.Fatalf("%q: %q", b, x.Bytes())
		}
	}
	if found[0] < 2000 || found[1] < 2000 {
		t.Errorf("%v", found)
	}
}

// fill puts n objects into objects, one at p and the others below it, each with the quota that is just enough.
func fill(objects map[string]api.Object, p []int, n int) {
	o := box()
	for rest := n - 1; rest > 0; o.Next++ {
		share := (rest + 15 - o.Next) / (16 - o.Next)
		o.Kids = append(o.Kids, api.Kid{N: o.Next, Kind: 1, Quota: 16 * share})
		fill(objects, append(slices.Clone(p), o.Next), share)
		rest -= share
	}
	objects[path.Text(p)] = o
}

// A table has at most 65536 objects, as then the whole quota is used.
func TestMostObjects(t *testing.T) {
	objects := map[string]api.Object{}
	fill(objects, nil, 65536)
	if len(objects) != 65536 || usage(objects[""]) != 1<<20 {
		t.Fatalf("%d objects that use %d", len(objects), usage(objects[""]))
	}
	x := table(t, objects)
	y, e := Load(x.Bytes())
	if e != api.OK || len(y.Paths()) != 65536 {
		t.Errorf("%v", e)
	}
	checkAdd(t, x, nil, box(), 16, -1, api.ErrFull)
	if n, e := x.Remove([]int{0}); n != 4096 || e != api.OK {
		t.Errorf("%d %v", n, e)
	}
	if n := len(x.Paths()); n != 65536-4096 {
		t.Errorf("%d", n)
	}
	clear(objects)
	fill(objects, nil, 65537)
	if x, e := Of(objects); x != nil || e != api.ErrForm {
		t.Errorf("%v", e)
	}
	checkNoLoad(t, "one more", encodedTable(inOrder(objects), objects))
	// A number alone promises nothing.
	checkNoLoad(t, "a number", numbers(65536))
	checkNoLoad(t, "a number", numbers(1<<62-1))
}

// P9.5

// thing is an object of a model, whose Kids are those things that are there.
type thing struct {
	p     []int
	o     api.Object
	quota int
}

// model is a table as the document describes it, without any care for speed.
type model map[string]thing

// newModel returns the model of a new table.
func newModel() model {
	return model{"": {o: box(), quota: 1 << 20}}
}

// get returns an object with its Kids.
func (m model) get(p []int) (api.Object, bool) {
	x, ok := m[path.Text(p)]
	if !ok {
		return api.Object{}, false
	}
	o := Copy(x.o)
	for _, y := range m {
		if above, n, ok := path.Parent(y.p); ok && slices.Equal(above, p) {
			o.Kids = append(o.Kids, api.Kid{N: n, Kind: y.o.Kind, Quota: y.quota})
		}
	}
	slices.SortFunc(o.Kids, func(a, b api.Kid) int { return a.N - b.N })
	return o, true
}

// check is an error that applies if bad is true.
type check struct {
	bad bool
	e   api.Errno
}

// first returns the first error that applies, or OK.
func first(checks ...check) api.Errno {
	for _, c := range checks {
		if c.bad {
			return c.e
		}
	}
	return api.OK
}

// set is Set of the model.
func (m model) set(p []int, o api.Object) api.Errno {
	was, ok := m.get(p)
	allowed := true
	if above, _, ok := path.Parent(p); ok {
		box, _ := m.get(above)
		allowed = label.Flows(box.Label, o.Label)
	}
	for _, k := range was.Kids {
		kid, _ := m.get(append(slices.Clone(p), k.N))
		allowed = allowed && label.Flows(o.Label, kid.Label)
	}
	e := first(
		check{!ok, api.ErrName},
		check{was.Kind != o.Kind, api.ErrKind},
		check{!isObject(o) || !slices.Equal(was.Kids, o.Kids) || was.Next != o.Next || !allowed, api.ErrArg},
		check{usage(o) > m[path.Text(p)].quota, api.ErrQuota},
	)
	if e == api.OK {
		x := m[path.Text(p)]
		x.o = Copy(o)
		x.o.Kids = nil
		m[path.Text(p)] = x
	}
	return e
}

// add is Add of the model.
func (m model) add(p []int, o api.Object, quota int) (int, api.Errno) {
	box, ok := m.get(p)
	e := first(
		check{!ok, api.ErrName},
		check{box.Kind != 1, api.ErrKind},
		check{!isObject(o) || len(o.Kids) > 0 || o.Next != 0 || quota < 0 || quota > 1<<20, api.ErrArg},
		check{!label.Flows(box.Label, o.Label), api.ErrLabel},
		check{len(p) == 6, api.ErrName},
		check{len(box.Kids) == 16, api.ErrFull},
		check{box.Next > 1<<20, api.ErrSpent},
		check{usage(o) > quota || usage(box)+quota > m[path.Text(p)].quota, api.ErrQuota},
	)
	if e != api.OK {
		return -1, e
	}
	x := m[path.Text(p)]
	x.o.Next++
	m[path.Text(p)] = x
	child := append(slices.Clone(p), box.Next)
	m[path.Text(child)] = thing{p: child, o: Copy(o), quota: quota}
	return box.Next, api.OK
}

// allot is Allot of the model.
func (m model) allot(p []int, quota int) api.Errno {
	o, ok := m.get(p)
	above, _, below := path.Parent(p)
	box, _ := m.get(above)
	x := m[path.Text(p)]
	e := first(
		check{!ok, api.ErrName},
		check{!below || quota < 0 || quota > 1<<20, api.ErrArg},
		check{usage(o) > quota || usage(box)-x.quota+quota > m[path.Text(above)].quota, api.ErrQuota},
	)
	if e == api.OK {
		x.quota = quota
		m[path.Text(p)] = x
	}
	return e
}

// remove is Remove of the model.
func (m model) remove(p []int) (int, api.Errno) {
	_, ok := m.get(p)
	if e := first(check{!ok, api.ErrName}, check{len(p) == 0, api.ErrArg}); e != api.OK {
		return 0, e
	}
	before := len(m)
	maps.DeleteFunc(m, func(_ string, x thing) bool { return slices.Equal(x.p, p) || path.Below(x.p, p) })
	return before - len(m), api.OK
}

// objects returns all objects of the model.
func (m model) objects() map[string]api.Object {
	objects := map[string]api.Object{}
	for text, x := range m {
		objects[text], _ = m.get(x.p)
	}
	return objects
}

// randomPlace returns the path of an object, mostly.
func (m model) randomPlace(r *rand.Rand) []int {
	keys := slices.Sorted(maps.Keys(m))
	p := m[keys[r.Intn(len(keys))]].p
	switch r.Intn(15) {
	case 0:
		return append(slices.Clone(p), r.Intn(20))
	case 1:
		return missing()[r.Intn(len(missing()))]
	case 2:
		return nil
	case 3, 4:
		// Containers are few, and most calls are for them.
		for i := r.Intn(len(keys)); i < len(keys); i++ {
			if x := m[keys[i]]; x.o.Kind == 1 {
				return x.p
			}
		}
	}
	return p
}

// randomQuota returns a quota that is mostly near what an object of this usage needs.
func randomQuota(r *rand.Rand, uses int) int {
	switch r.Intn(20) {
	case 0:
		return wrongNumbers(1 << 20)[r.Intn(10)]
	case 1:
		return r.Intn(1 << 20)
	case 2:
		return 0
	}
	return uses + []int{-1, 0, 1, 20, 100, 1000, 10000}[r.Intn(7)]
}

// randomKid returns an object to be added, seldom one that is not valid.
func randomKid(r *rand.Rand) api.Object {
	if r.Intn(4) == 0 {
		return randomObject(r)
	}
	o := api.Object{Kind: []int{1, 1, 1, 2, 3, 4, 5}[r.Intn(7)]}
	if r.Intn(3) == 0 {
		o.Label = randomLabel(r)
	}
	return o
}

// one performs a random call on both, and returns its name with its error.
func one(t *testing.T, r *rand.Rand, x *Table, m model) (string, api.Errno) {
	t.Helper()
	p := m.randomPlace(r)
	old, _ := m.get(p)
	switch n := r.Intn(20); {
	case n < 10:
		o := randomKid(r)
		quota := randomQuota(r, usage(o))
		got, e := x.Add(p, o, quota)
		if want, f := m.add(p, o, quota); got != want || e != f {
			t.Fatalf("Add %v, %v, %d: %d %v, not %d %v", p, o, quota, got, e, want, f)
		}
		return "Add", e
	case n < 14:
		o := randomObject(r)
		if r.Intn(6) > 0 {
			o.Kind, o.Kids, o.Next = old.Kind, old.Kids, old.Next
		}
		e := x.Set(p, o)
		if f := m.set(p, o); e != f {
			t.Fatalf("Set %v, %v: %v, not %v", p, o, e, f)
		}
		return "Set", e
	case n < 18:
		quota := randomQuota(r, usage(old))
		e := x.Allot(p, quota)
		if f := m.allot(p, quota); e != f {
			t.Fatalf("Allot %v, %d: %v, not %v", p, quota, e, f)
		}
		return "Allot", e
	default:
		if r.Intn(3) > 0 && len(p) < 2 {
			p = nil // not so often nearly all of the table
		}
		got, e := x.Remove(p)
		if want, f := m.remove(p); got != want || e != f {
			t.Fatalf("Remove %v: %d %v, not %d %v", p, got, e, want, f)
		}
		return "Remove", e
	}
}

// checkModel checks that a table has what its model has, that it is valid, and that it can be loaded.
func checkModel(t *testing.T, x *Table, m model) {
	t.Helper()
	objects := m.objects()
	if !isTable(objects) {
		t.Fatalf("%v is not a table", objects)
	}
	if got := objectsOf(t, x); !maps.EqualFunc(got, objects, equal) {
		t.Fatalf("%v, not %v", got, objects)
	}
	order := inOrder(objects)
	if !slices.Equal(texts(x.Paths()), order) {
		t.Fatalf("%v, not %v", x.Paths(), order)
	}
	for text, thing := range m {
		if x.Quota(thing.p) != thing.quota {
			t.Fatalf("%q: %d, not %d", text, x.Quota(thing.p), thing.quota)
		}
	}
	b := x.Bytes()
	if !bytes.Equal(b, encodedTable(order, objects)) {
		t.Fatalf("%q", b)
	}
	y, e := Load(b)
	if e != api.OK || !maps.EqualFunc(objectsOf(t, y), objects, equal) {
		t.Fatalf("%q: %v", b, e)
	}
	if z, e := Of(objects); e != api.OK || !bytes.Equal(z.Bytes(), b) {
		t.Fatalf("%v: %v", objects, e)
	}
}

func TestRemainsValid(t *testing.T) {
	found := map[string]int{}
	for seed := range int64(30) {
		r := rand.New(rand.NewSource(seed))
		x, m := New(), newModel()
		if seed%3 == 0 {
			// All its numbers but a few are given.
			x = table(t, map[string]api.Object{"": {Kind: 1, Next: 1<<20 - 3}})
			m[""] = thing{o: api.Object{Kind: 1, Next: 1<<20 - 3}, quota: 1 << 20}
		}
		for i := range 1500 {
			name, e := one(t, r, x, m)
			found[name+" "+strconv.Itoa(int(e))]++
			if i%10 == 0 {
				checkModel(t, x, m)
			}
			if i%100 == 0 {
				// The same table goes on after it was loaded or cloned.
				x, _ = Load(x.Bytes())
			} else if i%100 == 50 {
				x = x.Clone()
			}
		}
		checkModel(t, x, m)
	}
	for _, what := range []string{"Set 0", "Set 30", "Set 31", "Set 2", "Set 33", "Add 0", "Add 30", "Add 31", "Add 2", "Add 21", "Add 34", "Add 35", "Add 33", "Allot 0", "Allot 30", "Allot 2", "Allot 33", "Remove 0", "Remove 30", "Remove 2"} {
		if found[what] < 20 {
			t.Errorf("%s: %d times", what, found[what])
		}
	}
	if len(found) != 20 {
		t.Errorf("%v", found)
	}
}

// A table that was loaded, one that was made of objects, and a clone do the same from then on.
func TestLoadedGoesOn(t *testing.T) {
	r := rand.New(rand.NewSource(7))
	x, m := sample(t), newModel()
	y, _ := Load(x.Bytes())
	for text, o := range objectsOf(t, x) {
		quota := x.Quota(at(text))
		o.Kids = nil
		m[text] = thing{p: at(text), o: o, quota: quota}
	}
	for i := range 2000 {
		seed := r.Int63()
		before := maps.Clone(m)
		name, e := one(t, rand.New(rand.NewSource(seed)), x, m)
		other, f := one(t, rand.New(rand.NewSource(seed)), y, before)
		if name != other || e != f || i%20 == 0 && !bytes.Equal(x.Bytes(), y.Bytes()) {
			t.Fatalf("%s %v, %s %v", name, e, other, f)
		}
	}
	checkModel(t, x, m)
	checkModel(t, y, m)
}

// Nil tables

func TestNilTable(t *testing.T) {
	var x *Table
	for _, p := range append(missing(), nil, []int{}, []int{0}) {
		if o, ok := x.Get(p); ok || !reflect.DeepEqual(o, api.Object{}) {
			t.Errorf("%v %v", o, ok)
		}
		if n := x.Quota(p); n != -1 {
			t.Errorf("%d", n)
		}
		for _, o := range []api.Object{box(), {}, segment(257)} {
			if e := x.Set(p, o); e != api.ErrNil {
				t.Errorf("%v", e)
			}
			for _, quota := range []int{-1, 0, 100, 1<<20 + 1} {
				if n, e := x.Add(p, o, quota); n != -1 || e != api.ErrNil {
					t.Errorf("%d %v", n, e)
				}
				if e := x.Allot(p, quota); e != api.ErrNil {
					t.Errorf("%v", e)
				}
			}
		}
		if n, e := x.Remove(p); n != 0 || e != api.ErrNil {
			t.Errorf("%d %v", n, e)
		}
	}
	if l := x.Paths(); len(l) != 0 {
		t.Errorf("%v", l)
	}
	if c := x.Clone(); c != nil {
		t.Errorf("%v", c)
	}
	if b := x.Bytes(); len(b) != 0 {
		t.Errorf("%v", b)
	}
}

// Rules of all layers

// spare returns a copy of l with spare capacity, in which there are two more of x.
func spare[L ~[]T, T any](l L, x T) L {
	return append(append(L{}, l...), x, x)[: len(l) : len(l)+2]
}

// roomy returns a copy of o with spare capacity in all of its lists.
func roomy(o api.Object) api.Object {
	o.Label = spare(o.Label, api.Entry{Cat: "77/0", Level: 2})
	o.Kids = spare(o.Kids, api.Kid{N: 77, Kind: 1, Quota: 77})
	o.Bytes = spare(o.Bytes, 77)
	o.Own = spare(o.Own, "77/0")
	o.Entry = spare(o.Entry, api.Entry{Cat: "77/0", Level: 2})
	o.Maps = spare(o.Maps, api.Map{At: 77, Seg: []int{77}})
	for i, m := range o.Maps {
		o.Maps[i].Seg = spare(m.Seg, 77)
	}
	return o
}

// whole returns a copy of o with its spare capacity as a part of it.
func whole(o api.Object) api.Object {
	o.Label = o.Label[:cap(o.Label)]
	o.Kids = o.Kids[:cap(o.Kids)]
	o.Bytes = o.Bytes[:cap(o.Bytes)]
	o.Own = o.Own[:cap(o.Own)]
	o.Entry = o.Entry[:cap(o.Entry)]
	o.Maps = slices.Clone(o.Maps[:cap(o.Maps)])
	for i, m := range o.Maps {
		o.Maps[i].Seg = m.Seg[:cap(m.Seg)]
	}
	return Copy(o)
}

// intact reports whether a, which was roomy(o), still is, with its spare capacity.
func intact(a, o api.Object) bool {
	return reflect.DeepEqual(whole(a), whole(roomy(o)))
}

// fillUp writes x over a list and its spare capacity.
func fillUp[L ~[]T, T any](l L, x T) {
	l = l[:cap(l)]
	for i := range l {
		l[i] = x
	}
}

// over writes over an object, with all spare capacity.
func over(o api.Object) {
	fillUp(o.Label, api.Entry{Cat: "over", Level: 99})
	fillUp(o.Kids, api.Kid{N: 99, Kind: 99, Quota: 99})
	fillUp(o.Bytes, 99)
	fillUp(o.Own, "over")
	fillUp(o.Entry, api.Entry{Cat: "over", Level: 99})
	for _, m := range o.Maps[:cap(o.Maps)] {
		fillUp(m.Seg, 99)
	}
	fillUp(o.Maps, api.Map{At: 99, Seg: []int{99}})
}

func TestCopyIsNew(t *testing.T) {
	for _, o := range anyObjects() {
		a := roomy(o)
		c, d := Copy(a), Copy(a)
		over(c)
		if !intact(a, o) || !equal(d, o) {
			t.Errorf("the copy of %v shares its memory", o)
		}
		c = Copy(a)
		over(a)
		if !equal(c, o) {
			t.Errorf("the copy of %v is %v after a change", o, c)
		}
	}
	// No two lists of one copy share any memory.
	both := lb("1/0=2")
	c := Copy(api.Object{Label: both, Entry: both, Maps: []api.Map{{Seg: []int{1}}, {Seg: []int{1}}}})
	c.Label[0].Level = 3
	c.Maps[0].Seg[0] = 5
	if c.Entry[0].Level != 2 || c.Maps[1].Seg[0] != 1 {
		t.Errorf("%v", c)
	}
}

// homes returns for each Kind a path of the sample at which such an object is.
func homes() [][]int {
	return [][]int{nil, {0, 1}, {1}, {2}, {3}, {4}}
}

func TestArgumentsStay(t *testing.T) {
	for _, o := range anyObjects() {
		a := roomy(o)
		Right(a)
		Uses(a)
		Copy(a)
		Put(new(tape.Pen), a)
		x := sample(t)
		for _, p := range append(homes(), wrongPaths()...) {
			q := spare(p, 77)
			x.Set(q, a)
			x.Add(q, a, 300)
			x.Get(q)
			x.Quota(q)
			x.Allot(q, 300)
			x.Remove(q)
			if !slices.Equal(q[:len(p)+2], append(slices.Clone(p), 77, 77)) {
				t.Errorf("%v was changed to %v", p, q[:len(p)+2])
			}
		}
		objects := map[string]api.Object{"": roomy(api.Object{Kind: 1, Next: 1, Kids: []api.Kid{{N: 0, Kind: o.Kind, Quota: usage(o)}}}), "0": a}
		Of(objects)
		if !intact(a, o) || len(objects) != 2 {
			t.Errorf("%v was changed", o)
		}
	}
	for _, x := range []*Table{New(), sample(t)} {
		b := x.Bytes()
		c := spare(b, 77)
		Load(c)
		if !bytes.Equal(c[:len(b)+2], append(slices.Clone(b), 77, 77)) {
			t.Errorf("the bytes were changed")
		}
	}
}

// What a table was given may change later without a change of the table.
func TestArgumentsAreNotKept(t *testing.T) {
	for _, o := range anyObjects() {
		x := sample(t)
		a := roomy(o)
		if o.Kind >= 1 && o.Kind <= 5 {
			x.Set(homes()[o.Kind], a)
		}
		p := spare([]int{0, 1}, 77)
		x.Add(p, a, 180)
		before, objects := x.Bytes(), objectsOf(t, x)
		over(a)
		fillUp(p, 99)
		checkSame(t, "the arguments", x, before)
		if !maps.EqualFunc(objectsOf(t, x), objects, equal) {
			t.Errorf("%v was kept", o)
		}
	}
	good := objectsOf(t, sample(t))
	given := map[string]api.Object{}
	for text, o := range good {
		given[text] = roomy(o)
	}
	x := table(t, given)
	for text, o := range given {
		over(o)
		if text != "" {
			delete(given, text)
		}
	}
	given["8"] = box()
	if !maps.EqualFunc(objectsOf(t, x), good, equal) {
		t.Errorf("objects were kept")
	}
	b := sample(t).Bytes()
	y, _ := Load(b)
	fillUp(b, 99)
	if !maps.EqualFunc(objectsOf(t, y), good, equal) {
		t.Errorf("bytes were kept")
	}
}

// Writing over results changes no table, and later calls change no results.
func TestResultsAreNew(t *testing.T) {
	x := sample(t)
	before := x.Bytes()
	for _, p := range x.Paths() {
		o, _ := x.Get(p)
		over(o)
	}
	for _, p := range x.Paths() {
		fillUp(p, 99)
	}
	fillUp(x.Paths(), []int{99})
	fillUp(x.Bytes(), 99)
	checkSame(t, "the results", x, before)
	paths, b, objects := x.Paths(), x.Bytes(), objectsOf(t, x)
	want, bytesWant := texts(paths), slices.Clone(b)
	kept := map[string]api.Object{}
	for text, o := range objects {
		kept[text] = Copy(o)
	}
	r := rand.New(rand.NewSource(8))
	for range 300 {
		p := paths[r.Intn(len(paths))]
		o, _ := x.Get(p)
		o.Bytes = slices.Repeat([]byte{9}, min(len(o.Bytes), 3))
		x.Set(p, o)
		x.Allot(p, 50+r.Intn(50))
		x.Add(p, segment(0), 16)
		if r.Intn(10) == 0 {
			x.Remove(p)
		}
	}
	if len(x.Paths()) == len(paths) || !slices.Equal(texts(paths), want) || !bytes.Equal(b, bytesWant) || !maps.EqualFunc(objects, kept, equal) {
		t.Errorf("a result has changed")
	}
	// A part of one path has no room in which another one begins.
	l := sample(t).Paths()
	for _, p := range l {
		_ = append(p, 99)
	}
	if !slices.Equal(texts(l), samplePaths()) {
		t.Errorf("%v", l)
	}
}

// Lists of great length end too, and leave the table as it is.
func TestLong(t *testing.T) {
	const size = 1 << 20
	x := sample(t)
	before := x.Bytes()
	for _, o := range []api.Object{
		{Kind: 1, Next: size, Kids: kids(size)},
		segment(size),
		{Kind: 3, Own: slices.Repeat([]string{"1/0"}, size)},
		{Kind: 4, Entry: slices.Repeat(lb("1/0=3"), size)},
		{Kind: 5, Maps: slices.Repeat(mapped(1), size)},
		{Kind: 5, Maps: []api.Map{{Seg: make([]int, size)}}},
		{Kind: 2, Label: slices.Repeat(lb("1/0=3"), size)},
	} {
		if Right(o) || Uses(o) != usage(o) || !equal(Copy(o), o) || len(written(o)) < size {
			t.Errorf("the Kind %d", o.Kind)
		}
		if e := x.Set(homes()[o.Kind], o); e != api.ErrArg {
			t.Errorf("%v", e)
		}
		if n, e := x.Add(nil, o, 1<<20); n != -1 || e != api.ErrArg {
			t.Errorf("%d %v", n, e)
		}
		if y, e := Of(map[string]api.Object{"": o}); y != nil || e != api.ErrForm {
			t.Errorf("%v", e)
		}
		checkNoLoad(t, "long", encodedTable([]string{""}, map[string]api.Object{"": o}))
	}
	p := make([]int, size)
	if _, ok := x.Get(p); ok || x.Quota(p) != -1 || x.Set(p, box()) != api.ErrName || x.Allot(p, 1) != api.ErrName {
		t.Errorf("a long list is there")
	}
	if n, e := x.Add(p, box(), 16); n != -1 || e != api.ErrName {
		t.Errorf("%d %v", n, e)
	}
	if n, e := x.Remove(p); n != 0 || e != api.ErrName {
		t.Errorf("%d %v", n, e)
	}
	checkSame(t, "long", x, before)
	// Many objects below a container that lists many.
	objects := map[string]api.Object{"": {Kind: 1, Next: size, Kids: kids(size)}}
	for i := range 1 << 16 {
		objects[strconv.Itoa(i)] = segment(0)
	}
	if y, e := Of(objects); y != nil || e != api.ErrForm {
		t.Errorf("%v", e)
	}
	checkNoLoad(t, "zeros", make([]byte, size))
	checkNoLoad(t, "ones", bytes.Repeat([]byte{1}, size))
	checkNoLoad(t, "great", bytes.Repeat([]byte{255}, size))
}
