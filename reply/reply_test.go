package reply

import (
	"bytes"
	"fmt"
	"math"
	"math/rand"
	"slices"
	"strconv"
	"strings"
	"testing"

	"regency/api"
	"regency/cats"
	"regency/fault"
	"regency/label"
	"regency/tape"
)

const (
	most    = 1 << 20 // MostNumber, and MostQuota
	mostOfN = 1 << 40
	longCat = "1048576.1048576.1048576.1048576.1048576.1048576/65535"
)

// fields are those of a reply, in the order of its encoding.
func fields() []string {
	return strings.Fields("E N Text Cat Label Kids")
}

// lb returns the label of these entries, such as "1/0=3,2/0=0", in this order, whatever they are.
func lb(text string) api.Label {
	if text == "" {
		return nil
	}
	var l api.Label
	for _, part := range strings.Split(text, ",") {
		cat, level, _ := strings.Cut(part, "=")
		n, err := strconv.Atoi(level)
		if err != nil {
			panic(text)
		}
		l = append(l, api.Entry{Cat: cat, Level: n})
	}
	return l
}

// entries returns a label of n entries in order.
func entries(n int) api.Label {
	var l api.Label
	for i := range n {
		l = append(l, api.Entry{Cat: "5/" + strconv.Itoa(i), Level: 2 + i%2})
	}
	return l
}

// many returns n kids in order.
func many(n int) []api.Kid {
	var l []api.Kid
	for i := range n {
		l = append(l, api.Kid{N: 100 * i, Kind: 1 + i%5, Quota: 16 + i})
	}
	return l
}

// kd returns the kids of these numbers, such as "0:1:16,2:5:20", in this order, whatever they are.
func kd(text string) []api.Kid {
	var l []api.Kid
	for _, part := range strings.Split(text, ",") {
		var n []int
		for _, number := range strings.Split(part, ":") {
			x, err := strconv.Atoi(number)
			if err != nil {
				panic(text)
			}
			n = append(n, x)
		}
		l = append(l, api.Kid{N: n[0], Kind: n[1], Quota: n[2]})
	}
	return l
}

// full returns n bytes, none of which is 0.
func full(n int) []byte {
	return bytes.Repeat([]byte{'x'}, n)
}

// bytesFrom returns the n bytes from first on.
func bytesFrom(first, n int) []byte {
	var b []byte
	for i := range n {
		b = append(b, byte(first+i))
	}
	return b
}

// The values of the fields: those that are valid, and those that are not.

func errnos() []api.Errno {
	return []api.Errno{0, 1, 2, 9, 10, 13, 33, 41, 50, 98, 99}
}

func notErrnos() []api.Errno {
	return []api.Errno{-1, -2, 100, 101, 127, 128, 256, 1 << 32, 1<<32 + 1, math.MinInt, math.MaxInt}
}

func numbers() []int {
	return []int{0, 1, 2, 99, 100, 127, 128, 300, most, most + 1, 1 << 32, mostOfN - 1, mostOfN}
}

func notNumbers() []int {
	return []int{-1, -2, -128, -mostOfN, mostOfN + 1, 2 * mostOfN, 1 << 61, 1 << 62, math.MinInt, math.MaxInt}
}

func texts() [][]byte {
	return [][]byte{nil, {}, {0}, {1}, {15}, {16}, {127}, {128}, {255}, []byte("hi"), bytesFrom(0, 128), bytesFrom(128, 128), full(127), full(128), full(255), full(256), make([]byte, 256), bytesFrom(0, 256)}
}

func notTexts() [][]byte {
	return [][]byte{full(257), make([]byte, 257), full(258), full(1000)}
}

func categories() []string {
	return []string{"", "/0", "/3", "1/0", "1.3/10", "10/65535", longCat}
}

func notCategories() []string {
	return []string{"x", "/", "1", "1/", "01/0", "1/00", "1/65536", "1048577/0", "1.2.3.4.5.6.7/0", "-1/0", "1/-0", " ", " 1/0", "1/0 ", "\xff", "\x00", strings.Repeat("1", 80), strings.Repeat("1", 100), strings.Repeat("1/", 500)}
}

func labels() []api.Label {
	return []api.Label{nil, {}, lb("1/0=0"), lb("1/0=2"), lb("1/0=3"), lb("/3=3"), lb("1/0=3,2/0=0,10/0=2"), {{Cat: longCat, Level: 2}}, entries(7), entries(8)}
}

func notLabels() []api.Label {
	return []api.Label{entries(9), entries(100), lb("1/0=1"), lb("1/0=-1"), lb("1/0=4"), lb("x=2"), lb("=2"), lb("2/0=2,1/0=2"), lb("10/0=2,2/0=2"), lb("1/0=2,1/0=2"), lb("1/0=2,2/0=1"), {{}}}
}

func kids() [][]api.Kid {
	return [][]api.Kid{
		nil, {}, kd("0:1:0"), kd("0:5:0"), kd("0:1:1048576"), kd("1048576:1:0"), kd("1048576:5:1048576"), kd("1:2:16"), kd("7:3:300"),
		kd("0:4:20,1:4:20"), kd("1:5:40,2:3:30,10:1:20"), kd("1048575:1:2,1048576:1:1"), kd("0:2:16,1048576:2:16"),
		kd("127:2:127,128:2:128,255:2:255,256:2:256"), many(15), many(16),
	}
}

func notKids() [][]api.Kid {
	return [][]api.Kid{
		many(17), many(18), many(100), kd("-1:1:0"), kd("1048577:1:0"), kd("-9223372036854775808:1:0"), kd("9223372036854775807:1:0"), kd("4294967297:1:0"),
		kd("0:0:0"), kd("0:6:0"), kd("0:-1:0"), kd("0:-9223372036854775808:0"), kd("0:9223372036854775807:0"), kd("0:4294967297:0"),
		kd("0:1:-1"), kd("0:1:1048577"), kd("0:1:-9223372036854775808"), kd("0:1:9223372036854775807"), kd("0:1:4294967296"),
		{{}}, kd("1:1:16,1:1:16"), kd("1:1:16,1:2:17"), kd("2:1:16,1:1:16"), kd("0:1:16,2:1:16,1:1:16"), kd("0:1:1,5:1:1,5:1:1"),
		kd("10:1:16,9:1:16"), kd("1048576:1:16,0:1:16"), kd("0:1:16,1:0:16"), kd("0:1:16,1:1:1048577"), kd("0:1:16,1048577:1:16"), kd("-1:1:16,1:1:16"),
	}
}

// setter sets a field to a value.
type setter func(r *api.Reply)

// each returns the setters of these values.
func each[T any](values []T, set func(r *api.Reply, value T)) []setter {
	var l []setter
	for _, v := range values {
		l = append(l, func(r *api.Reply) { set(r, v) })
	}
	return l
}

// setters returns the setters of a field to its valid values, or to those that are not.
func setters(field string, valid bool) []setter {
	switch field {
	case "E":
		return each(pick(valid, errnos(), notErrnos()), func(r *api.Reply, e api.Errno) { r.E = e })
	case "N":
		return each(pick(valid, numbers(), notNumbers()), func(r *api.Reply, n int) { r.N = n })
	case "Text":
		return each(pick(valid, texts(), notTexts()), func(r *api.Reply, b []byte) { r.Text = b })
	case "Cat":
		return each(pick(valid, categories(), notCategories()), func(r *api.Reply, s string) { r.Cat = s })
	case "Label":
		return each(pick(valid, labels(), notLabels()), func(r *api.Reply, l api.Label) { r.Label = l })
	case "Kids":
		return each(pick(valid, kids(), notKids()), func(r *api.Reply, l []api.Kid) { r.Kids = l })
	}
	panic(field)
}

// pick returns the one list or the other one.
func pick[T any](first bool, a, b []T) []T {
	if first {
		return a
	}
	return b
}

// base returns a valid reply, all of whose fields are set.
func base() api.Reply {
	return api.Reply{E: 33, N: 300, Text: []byte("hi"), Cat: "6/0", Label: lb("1/0=3,2/0=0"), Kids: kd("3:2:40,200:5:1000")}
}

// samples returns valid replies: the zero one, a full one, and for each value of each field one with that alone and one with all else.
func samples() []api.Reply {
	l := []api.Reply{{}, base()}
	for _, field := range fields() {
		for _, set := range setters(field, true) {
			for _, r := range []api.Reply{{}, base()} {
				set(&r)
				l = append(l, r)
			}
		}
	}
	return l
}

// wrong is a reply that is not valid.
type wrong struct {
	what string // its wrong field
	r    api.Reply
}

// wrongs returns replies that are not valid, for each reason.
func wrongs() []wrong {
	var l []wrong
	for _, field := range fields() {
		for _, set := range setters(field, false) {
			for _, r := range []api.Reply{{}, base()} {
				set(&r)
				l = append(l, wrong{field, r})
			}
		}
	}
	return l
}

// everything returns samples and wrongs.
func everything() []api.Reply {
	l := samples()
	for _, x := range wrongs() {
		l = append(l, x.r)
	}
	return l
}

// equal reports whether all fields of a and b are equal.
func equal(a, b api.Reply) bool {
	for _, field := range fields() {
		if !equalIn(a, b, field) {
			return false
		}
	}
	return true
}

// equalIn reports whether this field is equal in a and b.
func equalIn(a, b api.Reply, field string) bool {
	switch field {
	case "E":
		return a.E == b.E
	case "N":
		return a.N == b.N
	case "Text":
		return string(a.Text) == string(b.Text)
	case "Cat":
		return a.Cat == b.Cat
	case "Label":
		return slices.Equal(a.Label, b.Label)
	case "Kids":
		return slices.Equal(a.Kids, b.Kids)
	}
	panic(field)
}

func TestLimits(t *testing.T) {
	if api.MostNumber != most || api.MostQuota != most || api.MostText != 256 || api.MostKids != 16 || api.MostEntries != 8 || api.Container != 1 || api.Space != 5 {
		t.Errorf("the tests are for other limits")
	}
	for _, field := range fields() {
		if equalIn(base(), api.Reply{}, field) {
			t.Errorf("%s", field)
		}
	}
}

// P12.1

func TestRight(t *testing.T) {
	for _, r := range samples() {
		if !Right(r) {
			t.Errorf("%v is not right", r)
		}
	}
	for _, x := range wrongs() {
		if Right(x.r) {
			t.Errorf("%s: %.300q is right", x.what, fmt.Sprint(x.r))
		}
	}
}

func TestRightKnown(t *testing.T) {
	for _, x := range []struct {
		r    api.Reply
		want bool
	}{
		{api.Reply{}, true},
		{api.Reply{E: math.MinInt}, false},
		{api.Reply{E: -1}, false},
		{api.Reply{E: 0}, true},
		{api.Reply{E: 99}, true},
		{api.Reply{E: 100}, false},
		{api.Reply{E: math.MaxInt}, false},
		{api.Reply{N: -1}, false},
		{api.Reply{N: 1 << 20}, true},
		{api.Reply{N: 1<<20 + 1}, true},
		{api.Reply{N: 1 << 40}, true},
		{api.Reply{N: 1<<40 + 1}, false},
		{api.Reply{E: 33, N: 5}, true},
		{api.Reply{Text: make([]byte, 256)}, true},
		{api.Reply{Text: make([]byte, 257)}, false},
		{api.Reply{Cat: "1.3/10"}, true},
		{api.Reply{Cat: "1.3/"}, false},
		{api.Reply{Cat: "-"}, false},
		{api.Reply{Label: lb("1/0=0,1/1=2,2/0=3")}, true},
		{api.Reply{Label: lb("1/0=0,2/0=3,1/1=2")}, false},
		{api.Reply{Label: lb("1/0=1")}, false},
		{api.Reply{Label: entries(8)}, true},
		{api.Reply{Label: entries(9)}, false},
		{api.Reply{Kids: many(16)}, true},
		{api.Reply{Kids: many(17)}, false},
		{api.Reply{Kids: []api.Kid{{N: 0, Kind: api.Container}}}, true},
		{api.Reply{Kids: []api.Kid{{N: 1 << 20, Kind: api.Space, Quota: 1 << 20}}}, true},
		{api.Reply{Kids: []api.Kid{{N: 1, Kind: 6}}}, false},
		{api.Reply{Kids: []api.Kid{{N: 1}}}, false},
		{api.Reply{Kids: []api.Kid{{N: 1, Kind: 1}, {N: 2, Kind: 1}}}, true},
		{api.Reply{Kids: []api.Kid{{N: 2, Kind: 1}, {N: 2, Kind: 2}}}, false},
		{api.Reply{Kids: []api.Kid{{N: 2, Kind: 1}, {N: 1, Kind: 1}}}, false},
	} {
		if Right(x.r) != x.want {
			t.Errorf("%v: not %v", x.r, x.want)
		}
	}
}

// Two wrong things do not make up for each other, whichever fields have them.
func TestRightTwoWrong(t *testing.T) {
	for _, one := range fields() {
		for _, other := range fields() {
			r := base()
			setters(one, false)[0](&r)
			setters(other, false)[0](&r)
			if Right(r) {
				t.Errorf("%s and %s", one, other)
			}
		}
	}
}

// Each of 16 kids may be the wrong one, by each of its numbers.
func TestRightEachKid(t *testing.T) {
	for i := range 16 {
		for _, spoil := range []func(k *api.Kid){
			func(k *api.Kid) { k.N = -1 },
			func(k *api.Kid) { k.N = most + 1 },
			func(k *api.Kid) { k.Kind = 0 },
			func(k *api.Kid) { k.Kind = 6 },
			func(k *api.Kid) { k.Quota = -1 },
			func(k *api.Kid) { k.Quota = most + 1 },
		} {
			l := many(16)
			spoil(&l[i])
			if Right(api.Reply{Kids: l}) {
				t.Errorf("%d: %v", i, l[i])
			}
		}
		if i == 0 {
			continue
		}
		l := many(16)
		l[i].N = l[i-1].N
		if Right(api.Reply{Kids: l}) {
			t.Errorf("%d: as the one ahead", i)
		}
		l[i].N = l[i-1].N + 1
		if !Right(api.Reply{Kids: l}) {
			t.Errorf("%d: one more than the one ahead", i)
		}
	}
}

// Each number near its limits.
func TestRightNear(t *testing.T) {
	for d := -300; d <= 300; d++ {
		for _, near := range []int{0, 99, most, mostOfN} {
			n := near + d
			for _, x := range []struct {
				r    api.Reply
				want bool
			}{
				{api.Reply{E: api.Errno(n)}, 0 <= n && n <= 99},
				{api.Reply{N: n}, 0 <= n && n <= mostOfN},
				{api.Reply{Kids: []api.Kid{{N: n, Kind: 2, Quota: 16}}}, 0 <= n && n <= most},
				{api.Reply{Kids: []api.Kid{{N: 3, Kind: n, Quota: 16}}}, 1 <= n && n <= 5},
				{api.Reply{Kids: []api.Kid{{N: 3, Kind: 2, Quota: n}}}, 0 <= n && n <= most},
			} {
				checkRound(t, x.r, x.want)
			}
		}
	}
}

// checkRound fails if r is not parsed as it is from its bytes, or has bytes though it is not valid.
func checkRound(t *testing.T, r api.Reply, valid bool) {
	t.Helper()
	if Right(r) != valid || (len(Bytes(r)) > 0) != valid {
		t.Fatalf("%v: not %v", r, valid)
	}
	if got, err := Parse(Bytes(r)); valid && (err != nil || !equal(got, r)) {
		t.Fatalf("%v: %v %v", r, got, err)
	}
}

// Lists that are empty but not nil are no fault.
func TestRightEmpty(t *testing.T) {
	if !Right(api.Reply{Text: []byte{}, Label: api.Label{}, Kids: []api.Kid{}}) {
		t.Errorf("empty lists are not right")
	}
}

// Each field alone counts in Same, whether it is valid or not.
func TestSameFields(t *testing.T) {
	for _, r := range []api.Reply{{}, base()} {
		if !Same(r, r) {
			t.Errorf("%v is not the same as itself", r)
		}
		for _, field := range fields() {
			for _, set := range slices.Concat(setters(field, true), setters(field, false)) {
				x := r
				set(&x)
				if want := equalIn(x, r, field); Same(r, x) != want || Same(x, r) != want || !Same(x, x) {
					t.Errorf("%s: not %v", field, want)
				}
			}
		}
	}
}

// Same is what the fields are.
func TestSameAll(t *testing.T) {
	l := everything()
	for i, a := range l {
		for k, b := range l {
			if Same(a, b) != equal(a, b) {
				t.Fatalf("%d and %d", i, k)
			}
		}
	}
}

func TestSameLists(t *testing.T) {
	for _, x := range [][2]api.Reply{
		{{E: 1}, {N: 1}},
		{{E: 1}, {E: 2}},
		{{E: 1}, {E: 1<<32 + 1}},
		{{N: 1}, {N: 1<<32 + 1}},
		{{N: math.MinInt}, {N: math.MaxInt}},
		{{Text: []byte{0}}, {}},
		{{Text: []byte("ab")}, {Text: []byte("ba")}},
		{{Text: []byte("ab")}, {Text: []byte("abc")}},
		{{Text: []byte("/0")}, {Cat: "/0"}},
		{{Cat: "1/0"}, {Cat: "01/0"}},
		{{Cat: "1/0"}, {}},
		{{Cat: "1/0"}, {Label: lb("1/0=0")}},
		{{Label: lb("1/0=3")}, {Label: lb("1/0=2")}},
		{{Label: lb("1/0=3")}, {Label: lb("2/0=3")}},
		{{Label: lb("1/0=3,2/0=3")}, {Label: lb("2/0=3,1/0=3")}},
		{{Label: lb("1/0=3")}, {Label: lb("1/0=3,1/0=3")}},
		{{Label: lb("1/0=1")}, {}},
		{{Kids: []api.Kid{{}}}, {}},
		{{Kids: []api.Kid{{}}}, {Kids: []api.Kid{{}, {}}}},
		{{Kids: kd("1:2:16")}, {Kids: kd("2:2:16")}},
		{{Kids: kd("1:2:16")}, {Kids: kd("1:3:16")}},
		{{Kids: kd("1:2:16")}, {Kids: kd("1:2:17")}},
		{{Kids: kd("1:2:3")}, {Kids: kd("3:2:1")}},
		{{Kids: kd("1:2:16")}, {Kids: kd("1:2:16,2:2:16")}},
		{{Kids: kd("1:2:16,2:2:16")}, {Kids: kd("2:2:16,1:2:16")}},
	} {
		if Same(x[0], x[1]) || Same(x[1], x[0]) {
			t.Errorf("%v and %v", x[0], x[1])
		}
		if !Same(x[0], x[0]) || !Same(x[1], x[1]) {
			t.Errorf("%v or %v", x[0], x[1])
		}
	}
}

// Each number of each kid counts in Same.
func TestSameEachKid(t *testing.T) {
	for i := range 16 {
		a, n, kind, quota := many(16), many(16), many(16), many(16)
		n[i].N++
		kind[i].Kind++
		quota[i].Quota++
		for _, l := range [][]api.Kid{n, kind, quota, a[:15]} {
			if Same(api.Reply{Kids: a}, api.Reply{Kids: l}) || Same(api.Reply{Kids: l}, api.Reply{Kids: a}) {
				t.Errorf("%d: %v", i, l)
			}
		}
		if !Same(api.Reply{Kids: a}, api.Reply{Kids: many(16)}) {
			t.Errorf("%v", a)
		}
	}
}

// Nil and empty lists are the same.
func TestSameEmpty(t *testing.T) {
	empty := api.Reply{Text: []byte{}, Label: api.Label{}, Kids: []api.Kid{}}
	if !Same(empty, api.Reply{}) || !Same(api.Reply{}, empty) || !Same(empty, empty) {
		t.Errorf("nil and empty ones differ")
	}
	if !Same(api.Reply{Label: api.Label{}}, api.Reply{}) || !Same(api.Reply{Kids: []api.Kid{}}, api.Reply{}) || !Same(api.Reply{Text: []byte{}}, api.Reply{}) {
		t.Errorf("nil and one empty one differ")
	}
}

// num is the encoding of a number.
func num(n int) []byte {
	var b []byte
	for ; n >= 128; n /= 128 {
		b = append(b, byte(n%128+128))
	}
	return append(b, byte(n))
}

// str is the encoding of a string.
func str(s string) []byte {
	return append(num(len(s)), s...)
}

// encoding is the encoding of a valid reply, as the chapter tells it.
func encoding(r api.Reply) []byte {
	b := slices.Concat(num(int(r.E)), num(r.N), str(string(r.Text)), str(r.Cat), num(len(r.Label)))
	for _, e := range r.Label {
		b = slices.Concat(b, str(e.Cat), num(e.Level))
	}
	b = append(b, num(len(r.Kids))...)
	for _, k := range r.Kids {
		b = slices.Concat(b, num(k.N), num(k.Kind), num(k.Quota))
	}
	return b
}

func TestBytesKnown(t *testing.T) {
	for _, x := range []struct {
		r    api.Reply
		want string
	}{
		{api.Reply{}, "\x00\x00\x00\x00\x00\x00"},
		{api.Reply{E: 33}, "\x21\x00\x00\x00\x00\x00"},
		{api.Reply{E: 99}, "\x63\x00\x00\x00\x00\x00"},
		{api.Reply{N: 3, Text: []byte("a")}, "\x00\x03\x01a\x00\x00\x00"},
		{api.Reply{N: 300}, "\x00\xac\x02\x00\x00\x00\x00"},
		{api.Reply{N: 1 << 40}, "\x00\x80\x80\x80\x80\x80\x20\x00\x00\x00\x00"},
		{api.Reply{Text: []byte{0, 255}}, "\x00\x00\x02\x00\xff\x00\x00\x00"},
		{api.Reply{Text: make([]byte, 256)}, "\x00\x00\x80\x02" + strings.Repeat("\x00", 256) + "\x00\x00\x00"},
		{api.Reply{Cat: "1.3/10"}, "\x00\x00\x00\x061.3/10\x00\x00"},
		{api.Reply{Label: lb("1/0=3,2/0=0")}, "\x00\x00\x00\x00\x02\x031/0\x03\x032/0\x00\x00"},
		{api.Reply{Kids: kd("7:2:16")}, "\x00\x00\x00\x00\x00\x01\x07\x02\x10"},
		{api.Reply{Kids: kd("0:1:0,1048576:5:1048576")}, "\x00\x00\x00\x00\x00\x02\x00\x01\x00\x80\x80\x40\x05\x80\x80\x40"},
		{
			api.Reply{E: 33, N: 12, Text: []byte{0, 0xfe}, Cat: "1.2/0", Label: lb("1/0=2"), Kids: kd("0:4:16,4:5:1048576")},
			"\x21\x0c\x02\x00\xfe\x051.2/0\x01\x031/0\x02\x02\x00\x04\x10\x04\x05\x80\x80\x40",
		},
	} {
		if b := Bytes(x.r); string(b) != x.want {
			t.Errorf("%v: %q, not %q", x.r, b, x.want)
		}
		if r, err := Parse([]byte(x.want)); err != nil || !equal(r, x.r) {
			t.Errorf("%q: %v %v, not %v", x.want, r, err, x.r)
		}
	}
}

func TestBytes(t *testing.T) {
	for _, r := range samples() {
		if b := Bytes(r); !bytes.Equal(b, encoding(r)) {
			t.Errorf("%v: %q, not %q", r, b, encoding(r))
		}
	}
}

func TestBytesOfWrong(t *testing.T) {
	for _, x := range wrongs() {
		if b := Bytes(x.r); len(b) != 0 {
			t.Errorf("%s: %q", x.what, b)
		}
	}
}

func TestParse(t *testing.T) {
	for _, r := range samples() {
		if got, err := Parse(encoding(r)); err != nil || !equal(got, r) {
			t.Errorf("%v: %v %v", r, got, err)
		}
	}
}

// checkParse fails if parsing b does not return the zero reply and a fault ErrForm of reply, with a cause of this number, or without a cause for OK.
func checkParse(t *testing.T, b string, number api.Errno) {
	t.Helper()
	r, err := Parse([]byte(b))
	if !equal(r, api.Reply{}) || fault.Code(err) != api.ErrForm || fault.Place(err) != "reply" {
		t.Errorf("%.100q: %v %v", b, r, err)
	}
	if number == api.OK {
		if fault.Depth(err) != 1 || err.Error() != "reply: regency: error 10" {
			t.Errorf("%.100q: %v has a cause", b, err)
		}
		return
	}
	if fault.Depth(err) != 2 || err.Error() != "reply: regency: error 10 < tape: "+number.Error() || !fault.Has(err, number) {
		t.Errorf("%.100q: %v, not with the cause %v", b, err, number)
	}
}

func TestParseNoBytes(t *testing.T) {
	for _, b := range [][]byte{nil, {}, make([]byte, 0, 5)} {
		r, err := Parse(b)
		if !equal(r, api.Reply{}) || err == nil || err.Error() != "reply: regency: error 10 < tape: regency: error 11" {
			t.Errorf("%v %v", r, err)
		}
	}
}

func TestParseFaults(t *testing.T) {
	long := strings.Repeat("1", 81)
	text := strings.Repeat("x", 257)
	for _, x := range []struct {
		b      string
		number api.Errno
	}{
		// E.
		{"\x64\x00\x00\x00\x00\x00", api.ErrLong},
		{"\x7f\x00\x00\x00\x00\x00", api.ErrLong},
		{"\x80\x01\x00\x00\x00\x00\x00", api.ErrLong},
		{"\x80", api.ErrEnd},
		{"\x80\x00\x00\x00\x00\x00\x00", api.ErrForm},
		{"\xe3\x00\x00\x00\x00\x00\x00", api.ErrForm},
		{"\xff\xff\xff\xff\xff\xff\xff\xff\x7f\x00", api.ErrLong},
		{"\xff\xff\xff\xff\xff\xff\xff\xff\xff\x01", api.ErrForm},
		// N.
		{"\x00", api.ErrEnd},
		{"\x00\x81\x80\x80\x80\x80\x20\x00\x00\x00\x00", api.ErrLong},
		{"\x00\x80\x80\x80\x80\x80\x40\x00\x00\x00\x00", api.ErrLong},
		{"\x00\x81\x00\x00\x00\x00\x00", api.ErrForm},
		{"\x00\x80\x80\x80\x80\x80\x80", api.ErrEnd},
		{"\x00\xff\xff\xff\xff\xff\xff\xff\xff\xff\x01", api.ErrForm},
		// Text.
		{"\x00\x00", api.ErrEnd},
		{"\x00\x00\x02h", api.ErrEnd},
		{"\x00\x00\x81\x02" + text + "\x00\x00\x00", api.ErrLong},
		{"\x00\x00\x80\x02" + text[:255], api.ErrEnd},
		{"\x00\x00\x82\x00hi\x00\x00\x00", api.ErrForm},
		// Cat.
		{"\x00\x00\x00", api.ErrEnd},
		{"\x00\x00\x00\x031/", api.ErrEnd},
		{"\x00\x00\x00\x83\x001/0\x00\x00", api.ErrForm},
		{"\x00\x00\x00\x51" + long + "\x00\x00", api.ErrLong},
		{"\x00\x00\x00\xff\x7f" + long + "\x00\x00", api.ErrLong},
		// Label.
		{"\x00\x00\x00\x00", api.ErrEnd},
		{"\x00\x00\x00\x00\x09\x00", api.ErrLong},
		{"\x00\x00\x00\x00\x01\x031/0\x04\x00", api.ErrLong},
		{"\x00\x00\x00\x00\x01\x51" + long + "\x02\x00", api.ErrLong},
		{"\x00\x00\x00\x00\x01\x031/", api.ErrEnd},
		{"\x00\x00\x00\x00\x81\x00\x031/0\x02\x00", api.ErrForm},
		// Kids.
		{"\x00\x00\x00\x00\x00", api.ErrEnd},
		{"\x00\x00\x00\x00\x00\x11" + strings.Repeat("\x00\x01\x00", 17), api.ErrLong},
		{"\x00\x00\x00\x00\x00\x81\x00\x07\x02\x10", api.ErrForm},
		{"\x00\x00\x00\x00\x00\x01", api.ErrEnd},
		{"\x00\x00\x00\x00\x00\x01\x07", api.ErrEnd},
		{"\x00\x00\x00\x00\x00\x01\x07\x02", api.ErrEnd},
		{"\x00\x00\x00\x00\x00\x02\x07\x02\x10", api.ErrEnd},
		{"\x00\x00\x00\x00\x00\x01\x81\x80\x40\x02\x10", api.ErrLong},
		{"\x00\x00\x00\x00\x00\x01\x07\x06\x10", api.ErrLong},
		{"\x00\x00\x00\x00\x00\x01\x07\x7f\x10", api.ErrLong},
		{"\x00\x00\x00\x00\x00\x01\x07\x02\x81\x80\x40", api.ErrLong},
		{"\x00\x00\x00\x00\x00\x01\x87\x00\x02\x10", api.ErrForm},
		{"\x00\x00\x00\x00\x00\x01\x07\x82\x00\x10", api.ErrForm},
		{"\x00\x00\x00\x00\x00\x01\x07\x02\x90\x00", api.ErrForm},
		// What is wrong without a fault of the tape does not end the reading: the fault behind it is met.
		{"\x00\x00\x00\x01x\x00\x11", api.ErrLong},
		{"\x00\x00\x00\x01x", api.ErrEnd},
		{"\x00\x00\x00\x00\x01\x01x\x02\x11", api.ErrLong},
		{"\x00\x00\x00\x00\x01\x031/0\x01\x01\x07\x06\x10", api.ErrLong},
		{"\x00\x00\x00\x00\x02\x031/0\x02\x031/0\x02\x01\x07\x02", api.ErrEnd},
		{"\x00\x00\x00\x00\x00\x02\x07\x00\x10\x08\x06\x10", api.ErrLong},
		{"\x00\x00\x00\x00\x00\x03\x07\x02\x10\x06\x02\x10\x09\x02", api.ErrEnd},
		// What is behind a fault counts for nothing, not even that bytes are left.
		{"\x64\x00\x00\x01x\x00\x00\x00\x00", api.ErrLong},
		{"\x00\x00\x00\x00\x09\x00\x00\x00\x00", api.ErrLong},
	} {
		checkParse(t, x.b, x.number)
	}
}

// Parts that are not valid, while the tape has no fault, have no cause; bytes that are left over have one all the same.
func TestParseWrongParts(t *testing.T) {
	for _, b := range []string{
		"\x00\x00\x00\x01x\x00\x00",
		"\x00\x00\x00\x0401/0\x00\x00",
		"\x00\x00\x00\x031/ \x00\x00",
		"\x00\x00\x00\x36" + strings.Repeat("1", 54) + "\x00\x00",
		"\x00\x00\x00\x50" + strings.Repeat("1", 80) + "\x00\x00",
		"\x00\x00\x00\x00\x01\x031/0\x01\x00",
		"\x00\x00\x00\x00\x01\x01x\x02\x00",
		"\x00\x00\x00\x00\x01\x00\x03\x00",
		"\x00\x00\x00\x00\x02\x032/0\x02\x031/0\x02\x00",
		"\x00\x00\x00\x00\x02\x031/0\x02\x031/0\x02\x00",
		"\x21\x0c\x02hi\x031/0\x02\x032/0\x02\x031/0\x02\x01\x07\x02\x10",
		"\x00\x00\x00\x00\x00\x01\x07\x00\x10",
		"\x00\x00\x00\x00\x00\x02\x07\x02\x10\x08\x00\x10",
		"\x00\x00\x00\x00\x00\x02\x07\x02\x10\x07\x02\x10",
		"\x00\x00\x00\x00\x00\x02\x08\x02\x10\x07\x02\x10",
		"\x00\x00\x00\x00\x00\x03\x06\x02\x10\x08\x02\x10\x07\x02\x10",
		"\x00\x00\x00\x01x\x01\x031/0\x01\x01\x07\x00\x10",
	} {
		checkParse(t, b, api.OK)
		checkParse(t, b+"\x00", api.ErrForm)
		checkParse(t, b+"\x02hi", api.ErrForm)
		checkParse(t, b+"\xff", api.ErrForm)
	}
}

// Bytes that end anywhere are not a reply, and the tape's fault says so.
func TestParseTooShort(t *testing.T) {
	for _, r := range samples() {
		b := encoding(r)
		for n := range b {
			checkParse(t, string(b[:n]), api.ErrEnd)
		}
	}
}

// Bytes that are left over are a fault of the tape's End, whatever they are.
func TestParseLeftOver(t *testing.T) {
	for _, r := range samples() {
		for _, behind := range []string{"\x00", "\x01", "\xff", "hi", string(encoding(r))} {
			checkParse(t, string(encoding(r))+behind, api.ErrForm)
		}
	}
}

// Numbers with bytes that they do not need are a fault, wherever they are.
func TestParseNeedlessBytes(t *testing.T) {
	for _, r := range []api.Reply{{}, base(), {N: mostOfN}, {Kids: many(16)}} {
		b := encoding(r)
		for i := range b {
			if b[i] >= 128 {
				continue
			}
			// The last byte of a number, or a byte of a string.
			x := slices.Concat(b[:i], []byte{b[i] + 128, 0}, b[i+1:])
			got, err := Parse(x)
			if fault.Code(err) != api.ErrForm || !equal(got, api.Reply{}) {
				t.Errorf("%d: %v %v", i, got, err)
			}
		}
	}
	zero := []byte{0, 0, 0, 0, 0, 0}
	for i := range zero {
		checkParse(t, string(slices.Concat(zero[:i], []byte{128, 0}, zero[i+1:])), api.ErrForm)
	}
}

// The encoding that a reply would have if it were valid is not parsed.
func TestParseWrongReplies(t *testing.T) {
	for _, x := range wrongs() {
		if negative(x.r) {
			continue
		}
		r, err := Parse(encoding(x.r))
		if fault.Code(err) != api.ErrForm || fault.Place(err) != "reply" || !equal(r, api.Reply{}) {
			t.Errorf("%s: %v %v", x.what, r, err)
		}
	}
}

// negative reports whether some number of r has no encoding.
func negative(r api.Reply) bool {
	l := []int{int(r.E), r.N}
	for _, e := range r.Label {
		l = append(l, e.Level)
	}
	for _, k := range r.Kids {
		l = append(l, k.N, k.Kind, k.Quota)
	}
	return slices.Min(l) < 0
}

// Refused has only the error, whatever number that is.
func TestRefused(t *testing.T) {
	known := []api.Errno{
		api.OK, api.ErrNil, api.ErrArg, api.ErrForm, api.ErrEnd, api.ErrSum, api.ErrLong, api.ErrCat, api.ErrLabel, api.ErrName,
		api.ErrKind, api.ErrFlow, api.ErrQuota, api.ErrFull, api.ErrSpent, api.ErrOwn, api.ErrRange, api.ErrOld, api.ErrTurn,
	}
	for _, e := range slices.Concat(known, errnos(), notErrnos()) {
		if r := Refused(e); !equal(r, api.Reply{E: e}) {
			t.Errorf("%d: %v", int(e), r)
		}
	}
	for _, e := range known {
		checkRound(t, Refused(e), true)
	}
}

// P12.2

func TestTextKnown(t *testing.T) {
	for _, x := range []struct {
		r    api.Reply
		want string
	}{
		{api.Reply{}, "ok"},
		{api.Reply{Text: []byte{}, Label: api.Label{}, Kids: []api.Kid{}}, "ok"},
		{api.Reply{N: 3, Text: []byte("a")}, "ok 3 61"},
		{api.Reply{E: api.ErrFlow}, "error 32"},
		{api.Reply{E: 1}, "error 1"},
		{api.Reply{E: 50}, "error 50"},
		{api.Reply{E: 99}, "error 99"},
		{api.Reply{N: 1 << 40}, "ok 1099511627776"},
		{api.Reply{E: 33, N: 5}, "error 33 5"},
		{api.Reply{Text: []byte{0}}, "ok 00"},
		{api.Reply{Text: []byte{0, 1, 9, 10, 15, 16, 127, 128, 160, 171, 255}}, "ok 0001090a0f107f80a0abff"},
		{api.Reply{Text: []byte("hi\n")}, "ok 68690a"},
		{api.Reply{Cat: "1.3/10"}, "ok 1.3/10"},
		{api.Reply{Cat: "/0"}, "ok /0"},
		{api.Reply{Label: lb("1/0=3")}, "ok 1/0=3"},
		{api.Reply{Label: lb("1/0=3,2/0=0")}, "ok 1/0=3,2/0=0"},
		{api.Reply{Kids: kd("7:2:16")}, "ok 7:2:16"},
		{api.Reply{Kids: kd("0:1:0")}, "ok 0:1:0"},
		{api.Reply{Kids: kd("0:1:16,2:5:1048576,1048576:3:40")}, "ok 0:1:16,2:5:1048576,1048576:3:40"},
		{api.Reply{N: 2, Kids: kd("7:2:16")}, "ok 2 7:2:16"},
		{api.Reply{Text: []byte{7}, Label: lb("1/0=3")}, "ok 07 1/0=3"},
		{api.Reply{Cat: "2/0", Kids: kd("7:2:16")}, "ok 2/0 7:2:16"},
		{
			api.Reply{E: 33, N: 12, Text: []byte{0, 0xfe}, Cat: "1.2/0", Label: lb("1/0=2"), Kids: kd("0:4:16,4:5:1048576")},
			"error 33 12 00fe 1.2/0 1/0=2 0:4:16,4:5:1048576",
		},
		{
			api.Reply{N: 12, Text: []byte("abc"), Cat: "1.2/0", Label: lb("1/0=2,3/1=3"), Kids: kd("3:1:20")},
			"ok 12 616263 1.2/0 1/0=2,3/1=3 3:1:20",
		},
		// Those that are not valid.
		{api.Reply{E: -1}, "error -1"},
		{api.Reply{E: 100}, "error 100"},
		{api.Reply{E: math.MinInt}, "error -9223372036854775808"},
		{api.Reply{E: math.MaxInt}, "error 9223372036854775807"},
		{api.Reply{N: -1}, "ok -1"},
		{api.Reply{N: math.MaxInt}, "ok 9223372036854775807"},
		{api.Reply{Text: make([]byte, 257)}, "ok " + strings.Repeat("00", 257)},
		{api.Reply{Cat: "x"}, "ok x"},
		{api.Reply{Cat: " "}, "ok  "},
		{api.Reply{Cat: "A b\xff"}, "ok A b\xff"},
		{api.Reply{Label: lb("x=7,x=-1")}, "ok x=7,x=-1"},
		{api.Reply{Label: api.Label{{}}}, "ok =0"},
		{api.Reply{Kids: []api.Kid{{}}}, "ok 0:0:0"},
		{api.Reply{Kids: kd("-1:-2:-3,-1:9:2097152")}, "ok -1:-2:-3,-1:9:2097152"},
	} {
		if s := Text(x.r); s != x.want {
			t.Errorf("%v: %q, not %q", x.r, s, x.want)
		}
	}
}

// told is the text of a reply, as the chapter tells it.
func told(r api.Reply) string {
	s := "ok"
	if r.E != 0 {
		s = fmt.Sprintf("error %d", int(r.E))
	}
	if r.N != 0 {
		s += fmt.Sprintf(" %d", r.N)
	}
	if len(r.Text) != 0 {
		s += fmt.Sprintf(" %x", r.Text)
	}
	if len(r.Cat) != 0 {
		s += " " + r.Cat
	}
	between := " "
	for _, e := range r.Label {
		s += fmt.Sprintf("%s%s=%d", between, e.Cat, e.Level)
		between = ","
	}
	between = " "
	for _, k := range r.Kids {
		s += fmt.Sprintf("%s%d:%d:%d", between, k.N, k.Kind, k.Quota)
		between = ","
	}
	return s
}

func TestText(t *testing.T) {
	for _, r := range everything() {
		if s := Text(r); s != told(r) {
			t.Errorf("%q, not %q", s, told(r))
		}
	}
}

// Each set of fields, the others zero or empty.
func TestTextFields(t *testing.T) {
	for set := range 1 << len(fields()) {
		r := base()
		for i, field := range fields() {
			if set>>i&1 == 0 {
				setters(field, true)[0](&r)
			}
		}
		if s := Text(r); s != told(r) || strings.HasPrefix(s, "ok") != (set&1 == 0) {
			t.Errorf("%q, not %q", s, told(r))
		}
	}
}

// Each byte of Text is two lowercase hexadecimal digits.
func TestTextBytes(t *testing.T) {
	for i := range 256 {
		want := fmt.Sprintf("ok %02x", i)
		if s := Text(api.Reply{Text: []byte{byte(i)}}); s != want {
			t.Errorf("%q, not %q", s, want)
		}
		if s := Text(api.Reply{Text: []byte{byte(i), byte(255 - i)}}); s != want+fmt.Sprintf("%02x", 255-i) {
			t.Errorf("%d: %q", i, s)
		}
	}
}

// P12.3

// choice is what the fields of random replies are chosen from.
type choice struct {
	r          *rand.Rand
	valid, not [][]setter // of each field
}

// newChoice returns a choice that begins with this seed.
func newChoice(seed int64) choice {
	c := choice{r: rand.New(rand.NewSource(seed))}
	for _, field := range fields() {
		c.valid = append(c.valid, setters(field, true))
		c.not = append(c.not, setters(field, false))
	}
	return c
}

// right returns a valid reply.
func (c choice) right() api.Reply {
	var r api.Reply
	for _, l := range c.valid {
		l[c.r.Intn(len(l))](&r)
	}
	return r
}

// any returns a reply that may be valid.
func (c choice) any() api.Reply {
	r := c.right()
	for _, l := range c.not {
		if c.r.Intn(8) == 0 {
			l[c.r.Intn(len(l))](&r)
		}
	}
	return r
}

func TestRoundTrip(t *testing.T) {
	c := newChoice(1)
	l := samples()
	for range 8000 {
		l = append(l, c.right())
	}
	for _, r := range l {
		b := Bytes(r)
		if !Right(r) || !bytes.Equal(b, encoding(r)) {
			t.Fatalf("%v: %q", r, b)
		}
		got, err := Parse(b)
		if err != nil || !equal(got, r) || !Same(got, r) || !Right(got) || Text(got) != told(r) {
			t.Fatalf("%v: %v %v", r, got, err)
		}
		if !bytes.Equal(Bytes(got), b) {
			t.Fatalf("%v: %q", r, Bytes(got))
		}
	}
}

// Each number is parsed as it was.
func TestNumbersRoundTrip(t *testing.T) {
	for n := -300; n <= most+300; n += 97 {
		in := 0 <= n && n <= most
		checkRound(t, api.Reply{N: n}, n >= 0)
		checkRound(t, api.Reply{N: mostOfN - n}, n >= 0)
		checkRound(t, api.Reply{Kids: []api.Kid{{N: n, Kind: 1, Quota: 16}}}, in)
		checkRound(t, api.Reply{Kids: []api.Kid{{N: 3, Kind: 1, Quota: n}}}, in)
	}
}

// Different replies have different encodings, of which none begins with another one.
func TestEncodingsDiffer(t *testing.T) {
	l := samples()
	for i, a := range l {
		for k, b := range l {
			if !equal(a, b) && bytes.HasPrefix(Bytes(a), Bytes(b)) {
				t.Fatalf("%d and %d: %v, %v", i, k, a, b)
			}
		}
	}
}

// checkAny fails if b can be parsed and is not the encoding of a valid reply. It reports whether it was parsed.
func checkAny(t *testing.T, b []byte) bool {
	t.Helper()
	r, err := Parse(b)
	if err != nil {
		if !equal(r, api.Reply{}) || fault.Code(err) != api.ErrForm || fault.Place(err) != "reply" || fault.Depth(err) > 2 {
			t.Fatalf("%q: %v %v", b, r, err)
		}
		return false
	}
	if !Right(r) || !bytes.Equal(Bytes(r), b) || !bytes.Equal(encoding(r), b) {
		t.Fatalf("%q: %v", b, r)
	}
	return true
}

// All bytes of up to five are too short for a reply; those of six have only E and N.
func TestShortBytes(t *testing.T) {
	for n := range 1 << 16 {
		a, b := byte(n>>8), byte(n)
		for _, x := range [][]byte{{a}, {a, b}, {a, b, 0}, {0, a, b}, {a, b, 0, 0}, {0, 0, a, b, 0}} {
			if checkAny(t, x) {
				t.Fatalf("%q is a reply", x)
			}
		}
		want := a <= 99 && b < 128
		if checkAny(t, []byte{a, b, 0, 0, 0, 0}) != want {
			t.Fatalf("%d %d: not %v", a, b, want)
		}
		if checkAny(t, []byte{0, 0, a, b, 0, 0}) != (a == 0 && b == 0) {
			t.Fatalf("%d %d", a, b)
		}
	}
}

// Every bit of an encoding inverted.
func TestTurnedBits(t *testing.T) {
	for _, r := range samples() {
		b := encoding(r)
		for i := range 8 * min(len(b), 100) {
			x := bytes.Clone(b)
			x[i/8] ^= 1 << (i % 8)
			if checkAny(t, x) {
				if got, _ := Parse(x); equal(got, r) {
					t.Fatalf("%q and %q are %v", b, x, r)
				}
			}
		}
	}
}

// Encodings with some bytes replaced, removed or added.
func TestAnyBytes(t *testing.T) {
	c := newChoice(2)
	r := c.r
	parsed := 0
	for range 20000 {
		b := encoding(c.right())
		for range r.Intn(4) {
			switch i := r.Intn(len(b)); r.Intn(4) {
			case 0:
				b = slices.Delete(b, i, i+1)
			case 1:
				b = slices.Insert(b, i, byte(r.Intn(256)))
			default:
				b[i] = byte(r.Intn(256)) >> r.Intn(8)
			}
		}
		if checkAny(t, b) {
			parsed++
		}
	}
	if parsed < 4000 || parsed > 18000 {
		t.Errorf("%d replies", parsed)
	}
}

// Random replies, valid and not, against what the layers below say of their fields.
func TestRandomReplies(t *testing.T) {
	c := newChoice(3)
	right := 0
	for range 20000 {
		x := c.any()
		if c.r.Intn(2) == 0 {
			x.Kids = randomKids(c.r)
		}
		want := isRight(x)
		if want {
			right++
		}
		if Right(x) != want || (len(Bytes(x)) > 0) != want {
			t.Fatalf("%v: not %v", x, want)
		}
		if s := Text(x); s != told(x) {
			t.Fatalf("%q, not %q", s, told(x))
		}
	}
	if right < 4000 || right > 16000 {
		t.Errorf("%d valid replies", right)
	}
}

// randomKids returns some kids, most of them in order and within their limits.
func randomKids(r *rand.Rand) []api.Kid {
	var l []api.Kid
	for i := range r.Intn(19) {
		l = append(l, api.Kid{N: 60000 * i, Kind: 1 + r.Intn(5), Quota: r.Intn(most + 1)})
	}
	if len(l) > 0 && r.Intn(2) == 0 {
		k := &l[r.Intn(len(l))]
		switch r.Intn(3) {
		case 0:
			k.N += 30000 * (r.Intn(5) - 2)
		case 1:
			k.Kind = r.Intn(7)
		default:
			k.Quota += r.Intn(most) - most/2
		}
	}
	return l
}

// isRight reports whether r is valid.
func isRight(r api.Reply) bool {
	last := -1
	for _, k := range r.Kids {
		if k.N <= last || k.N > most || k.Kind < 1 || k.Kind > 5 || k.Quota < 0 || k.Quota > most {
			return false
		}
		last = k.N
	}
	return 0 <= r.E && r.E <= 99 && 0 <= r.N && r.N <= mostOfN && len(r.Text) <= 256 &&
		(r.Cat == "" || cats.Right(r.Cat)) && label.Right(r.Label) && len(r.Kids) <= 16
}

// The label of an encoding is what layer 6 puts.
func TestLabelIsPut(t *testing.T) {
	for _, l := range labels() {
		var w tape.Pen
		label.Put(&w, l)
		if b := Bytes(api.Reply{Label: l}); string(b) != "\x00\x00\x00\x00"+string(w.Bytes())+"\x00" {
			t.Errorf("%v: %q", l, b)
		}
		if s := Text(api.Reply{E: 1, Label: l}); len(l) > 0 && s != "error 1 "+label.Text(l) {
			t.Errorf("%v: %q", l, s)
		}
	}
}

// Rules of all layers

// spare returns a copy of l with spare capacity, in which there are two more of x.
func spare[T any](l []T, x T) []T {
	return append(slices.Clone(l), x, x)[:len(l)]
}

// roomy returns a copy of r with spare capacity in all of its lists.
func roomy(r api.Reply) api.Reply {
	r.Text = spare(r.Text, 77)
	r.Label = spare(r.Label, api.Entry{Cat: "77/0", Level: 2})
	r.Kids = spare(r.Kids, api.Kid{N: 77, Kind: 2, Quota: 77})
	return r
}

// whole returns a copy of r, which has two more elements in all of its lists, those of the spare capacity.
func whole(r api.Reply) api.Reply {
	r.Text = slices.Clone(r.Text[:len(r.Text)+2])
	r.Label = slices.Clone(r.Label[:len(r.Label)+2])
	r.Kids = slices.Clone(r.Kids[:len(r.Kids)+2])
	return r
}

// fillUp writes x over a list and its spare capacity.
func fillUp[T any](l []T, x T) {
	l = l[:cap(l)]
	for i := range l {
		l[i] = x
	}
}

// over writes over all lists of a reply, with their spare capacity.
func over(r api.Reply) {
	fillUp(r.Text, 99)
	fillUp(r.Label, api.Entry{Cat: "99/0", Level: 3})
	fillUp(r.Kids, api.Kid{N: 99, Kind: 3, Quota: 99})
}

// several returns replies of all sorts, with spare capacity.
func several() []api.Reply {
	var l []api.Reply
	for _, r := range everything() {
		l = append(l, roomy(r))
	}
	return l
}

func TestArgumentsStay(t *testing.T) {
	for _, r := range several() {
		was := whole(r)
		other := roomy(r)
		Right(r)
		Same(r, other)
		Same(other, r)
		Bytes(r)
		Text(r)
		if !equal(whole(r), was) || !equal(whole(other), was) {
			t.Errorf("%v was changed", r)
		}
	}
	for _, r := range samples() {
		b := spare(encoding(r), 77)
		was := bytes.Clone(b[:len(b)+2])
		Parse(b)
		Parse(b[:len(b)-1])
		if !bytes.Equal(b[:len(b)+2], was) {
			t.Errorf("%q was changed to %q", was, b)
		}
	}
}

// Writing over an argument after the call, with its spare capacity, changes no result.
func TestArgumentsAreNotKept(t *testing.T) {
	for _, x := range samples() {
		r := roomy(x)
		b, s := Bytes(r), Text(r)
		over(r)
		if !bytes.Equal(b, encoding(x)) || s != told(x) {
			t.Errorf("%v: %q, %q", x, b, s)
		}
		b = spare(encoding(x), 77)
		got, err := Parse(b)
		fillUp(b, 0)
		if err != nil || !equal(got, x) {
			t.Errorf("%v: %v %v", x, got, err)
		}
	}
}

// Results are new: writing over one, with its spare capacity, changes neither an argument nor another result.
func TestResultsAreNew(t *testing.T) {
	for _, r := range several() {
		was := whole(r)
		a, b := Bytes(r), Bytes(r)
		fillUp(a, 99)
		if !equal(whole(r), was) {
			t.Errorf("%v: Bytes is not new", r)
		}
		if !Right(r) {
			continue
		}
		if !bytes.Equal(b, encoding(r)) || !bytes.Equal(Bytes(r), b) {
			t.Errorf("%v: Bytes is not new", r)
		}
		x, _ := Parse(b)
		y, _ := Parse(b)
		over(x)
		if !equal(y, r) || !bytes.Equal(b, encoding(r)) {
			t.Errorf("%v: Parse is not new", r)
		}
	}
}

// The same call gives the same result, whatever came in between, and results stay as they are.
func TestCallsAreApart(t *testing.T) {
	for _, r := range several() {
		right, b, s := Right(r), Bytes(r), Text(r)
		got, err := Parse(b)
		Bytes(base())
		Text(base())
		Parse([]byte("\x00\x00\x00\x00\x01\x01x\x02\x00"))
		Parse(encoding(base()))
		Refused(5)
		if Right(r) != right || !bytes.Equal(Bytes(r), b) || Text(r) != s || s != told(r) {
			t.Errorf("%v", r)
		}
		if again, e := Parse(b); !equal(again, got) || (e == nil) != (err == nil) || right && !equal(got, r) {
			t.Errorf("%v: %v, %v", r, got, again)
		}
	}
}

// Long inputs end.
func TestLong(t *testing.T) {
	n := 1 << 18
	r := api.Reply{Text: make([]byte, n), Cat: strings.Repeat("1.", n), Label: make(api.Label, n), Kids: make([]api.Kid, n)}
	if Right(r) || len(Bytes(r)) != 0 || !Same(r, r) {
		t.Errorf("a long reply")
	}
	want := "ok " + strings.Repeat("00", n) + " " + strings.Repeat("1.", n) + " " + strings.Repeat(",=0", n)[1:] + " " + strings.Repeat(",0:0:0", n)[1:]
	if Text(r) != want {
		t.Errorf("the text of a long reply")
	}
	for _, x := range []struct {
		first  byte
		number api.Errno
	}{
		{0, api.ErrForm}, {3, api.ErrForm}, {6, api.ErrLong}, {100, api.ErrLong}, {128, api.ErrForm}, {255, api.ErrForm},
	} {
		checkParse(t, strings.Repeat(string([]byte{x.first}), n), x.number)
	}
}
