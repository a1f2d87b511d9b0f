package call

import (
	"bytes"
	"math"
	"math/rand"
	"slices"
	"strconv"
	"strings"
	"testing"

	"regency/api"
	"regency/cats"
	"regency/fault"
	"regency/label"
	"regency/owns"
	"regency/path"
	"regency/tape"
)

const most = 1 << 20 // MostNumber

// words returns the parts of the calls with this Op, as the chapter's table has them. N- is the N of Move.
func words(op int) []string {
	rows := []string{
		"", "", "At Label N M", "At Label N", "At Label N Own", "At Label N Entry Own M", "At Label N",
		"At N M", "At N Text", "At N", "At", "At", "At", "At N-", "Label", "At", "Cat", "At N Seg Write", "At N", "At N M", "At N Text",
	}
	if op < 0 || op >= len(rows) {
		return nil
	}
	return strings.Fields(rows[op])
}

// all are the fields of a call, but for its Op.
func all() []string {
	return strings.Fields("At Label Entry Own N M Text Cat Seg Write")
}

// has reports whether a field is a part of the calls with this Op.
func has(op int, field string) bool {
	return slices.Contains(words(op), field) || field == "N" && slices.Contains(words(op), "N-")
}

// ops returns the Ops of calls.
func ops() []int {
	var l []int
	for op := range 21 {
		l = append(l, op)
	}
	return l
}

// noOps returns Ops that no call has.
func noOps() []int {
	return []int{-1, 21, 22, 100, 127, 128, 256, 1 << 20, 1 << 32, 1<<32 + 7, -21, math.MinInt, math.MaxInt}
}

// lb returns the label of these entries, such as "1/0=3,2/0=0", in this order, whatever they are.
func lb(text string) api.Label {
	if text == "" {
		return nil
	}
	var l api.Label
	for _, part := range strings.Split(text, ",") {
		cat, level, _ := strings.Cut(part, "=")
		n, err := strconv.Atoi(level)
		if err != nil {
			panic(text)
		}
		l = append(l, api.Entry{Cat: cat, Level: n})
	}
	return l
}

// entries returns a label of n entries in order.
func entries(n int) api.Label {
	var l api.Label
	for i := range n {
		l = append(l, api.Entry{Cat: "5/" + strconv.Itoa(i), Level: 2 + i%2})
	}
	return l
}

// many returns n categories in order.
func many(n int) []string {
	var l []string
	for i := range n {
		l = append(l, "5/"+strconv.Itoa(i))
	}
	return l
}

// full returns n bytes, none of which is 0.
func full(n int) []byte {
	return bytes.Repeat([]byte{'x'}, n)
}

const longCat = "1048576.1048576.1048576.1048576.1048576.1048576/65535"

// The values of the fields: those that are valid as parts, and those that are not.

func paths() [][]int {
	return [][]int{nil, {}, {0}, {1}, {1, 2}, {127, 128}, {most}, {6, 5, 4, 3, 2, 1}, {0, 0, 0, 0, 0, 0}, {most, most, most, most, most, most}}
}

func notPaths() [][]int {
	return [][]int{make([]int, 7), {1, 2, 3, 4, 5, 6, 7}, make([]int, 100), {-1}, {most + 1}, {1, -1}, {1, 2, 3, 4, 5, most + 1}, {math.MinInt}, {1, math.MaxInt}}
}

func labels() []api.Label {
	return []api.Label{nil, {}, lb("1/0=0"), lb("1/0=2"), lb("1/0=3"), lb("/3=3"), lb("1/0=3,2/0=0,10/0=2"), {{Cat: longCat, Level: 2}}, entries(7), entries(8)}
}

func notLabels() []api.Label {
	return []api.Label{entries(9), entries(100), lb("1/0=1"), lb("1/0=-1"), lb("1/0=4"), lb("x=2"), lb("=2"), lb("2/0=2,1/0=2"), lb("10/0=2,2/0=2"), lb("1/0=2,1/0=2"), lb("1/0=2,2/0=1"), {{}}}
}

func ownerships() [][]string {
	return [][]string{nil, {}, {"1/0"}, {"/3"}, {"1/0", "1.3/0", "2/0", "10/0"}, {longCat}, many(7), many(8)}
}

func notOwnerships() [][]string {
	return [][]string{many(9), many(100), {""}, {"x"}, {"1/0", "x"}, {"2/0", "1/0"}, {"10/0", "2/0"}, {"1/0", "1/0"}, {"01/0"}}
}

func numbers() []int {
	return []int{0, 1, 2, 127, 128, 300, 16384, most - 1, most}
}

func notNumbers() []int {
	return []int{-1, -2, -most, most + 1, 2 * most, 1 << 32, 1<<32 + 1, math.MinInt, math.MaxInt}
}

func moves() []int {
	return []int{0, 1, -1, 127, 128, -128, most - 1, most, -most + 1, -most}
}

func notMoves() []int {
	return []int{most + 1, -most - 1, 2 * most, -2 * most, 1 << 32, -1 << 32, math.MinInt, math.MinInt + 1, math.MaxInt, math.MaxInt - most, math.MaxInt - most + 1}
}

func texts() [][]byte {
	return [][]byte{nil, {}, {0}, {255}, []byte("hi"), full(127), full(128), full(255), full(256), make([]byte, 256)}
}

func notTexts() [][]byte {
	return [][]byte{full(257), make([]byte, 257), full(258), full(1000)}
}

func categories() []string {
	return []string{"/0", "/3", "1/0", "1.3/10", "10/65535", longCat}
}

func notCategories() []string {
	return []string{"", "x", "/", "1", "1/", "01/0", "1/00", "1/65536", "1048577/0", "1.2.3.4.5.6.7/0", "-1/0", "1/-0", " 1/0", "1/0 ", "\xff", strings.Repeat("1", 100), strings.Repeat("1/", 500)}
}

// setter sets a field to a value.
type setter func(c *api.Call)

// each returns the setters of these values.
func each[T any](values []T, set func(c *api.Call, value T)) []setter {
	var l []setter
	for _, v := range values {
		l = append(l, func(c *api.Call) { set(c, v) })
	}
	return l
}

// setters returns the setters of a field to the values that are valid as that part, or to those that are not.
func setters(word string, valid bool) []setter {
	switch word {
	case "At":
		return each(pick(valid, paths(), notPaths()), func(c *api.Call, p []int) { c.At = p })
	case "Label":
		return each(pick(valid, labels(), notLabels()), func(c *api.Call, l api.Label) { c.Label = l })
	case "Entry":
		return each(pick(valid, labels(), notLabels()), func(c *api.Call, l api.Label) { c.Entry = l })
	case "Own":
		return each(pick(valid, ownerships(), notOwnerships()), func(c *api.Call, l []string) { c.Own = l })
	case "N":
		return each(pick(valid, numbers(), notNumbers()), func(c *api.Call, n int) { c.N = n })
	case "N-":
		return each(pick(valid, moves(), notMoves()), func(c *api.Call, n int) { c.N = n })
	case "M":
		return each(pick(valid, numbers(), notNumbers()), func(c *api.Call, n int) { c.M = n })
	case "Text":
		return each(pick(valid, texts(), notTexts()), func(c *api.Call, b []byte) { c.Text = b })
	case "Cat":
		return each(pick(valid, categories(), notCategories()), func(c *api.Call, s string) { c.Cat = s })
	case "Seg":
		return each(pick(valid, paths(), notPaths()), func(c *api.Call, p []int) { c.Seg = p })
	case "Write":
		return each(pick(valid, []bool{false, true}, nil), func(c *api.Call, b bool) { c.Write = b })
	}
	panic(word)
}

// pick returns the one list or the other one.
func pick[T any](first bool, a, b []T) []T {
	if first {
		return a
	}
	return b
}

// base returns a valid call with this Op, all of whose parts are set.
func base(op int) api.Call {
	return Plain(filled(op))
}

// filled returns a call with this Op, all of whose fields are set to what is valid as a part.
func filled(op int) api.Call {
	return api.Call{Op: op, At: []int{1, 2}, Label: lb("1/0=3"), Entry: lb("2/0=2,3/0=0"), Own: []string{"4/0", "5/0"}, N: 300, M: 7, Text: []byte("hi"), Cat: "6/0", Seg: []int{3}, Write: true}
}

// samples returns valid calls: for each Op the one with zero parts (but for Cat), and those in which one part has each of its values.
func samples() []api.Call {
	var l []api.Call
	for _, op := range ops() {
		zero := api.Call{Op: op}
		if has(op, "Cat") {
			zero.Cat = "/0"
		}
		l = append(l, zero)
		for _, word := range words(op) {
			for _, set := range setters(word, true) {
				for _, c := range []api.Call{zero, base(op)} {
					set(&c)
					l = append(l, c)
				}
			}
		}
		l = append(l, base(op))
	}
	return l
}

// wrong is a call that is not valid.
type wrong struct {
	what string
	c    api.Call
}

// wrongs returns calls that are not valid, for each reason.
func wrongs() []wrong {
	var l []wrong
	for _, op := range noOps() {
		for _, c := range []api.Call{{Op: op}, {Op: op, At: []int{1}}, {Op: op, Cat: "/0"}, filled(op)} {
			l = append(l, wrong{"Op", c})
		}
	}
	for _, op := range ops() {
		for _, word := range words(op) {
			for _, set := range setters(word, false) {
				c := base(op)
				set(&c)
				l = append(l, wrong{word, c})
			}
		}
		for _, field := range all() {
			if has(op, field) {
				continue
			}
			for _, c := range changed(base(op), field) {
				l = append(l, wrong{"a " + field, c})
			}
		}
		l = append(l, wrong{"all fields", filled(op)})
	}
	return l
}

// changed returns c with other values in this field, valid as a part and not.
func changed(c api.Call, field string) []api.Call {
	var l []api.Call
	for _, set := range slices.Concat(setters(field, true), setters(field, false)) {
		x := c
		set(&x)
		if !equal(x, c) {
			l = append(l, x)
		}
	}
	return l
}

// equal reports whether all fields of a and b are equal.
func equal(a, b api.Call) bool {
	for _, field := range all() {
		if !equalIn(a, b, field) {
			return false
		}
	}
	return a.Op == b.Op
}

// equalIn reports whether this field is equal in a and b.
func equalIn(a, b api.Call, field string) bool {
	switch field {
	case "At":
		return slices.Equal(a.At, b.At)
	case "Label":
		return slices.Equal(a.Label, b.Label)
	case "Entry":
		return slices.Equal(a.Entry, b.Entry)
	case "Own":
		return slices.Equal(a.Own, b.Own)
	case "N":
		return a.N == b.N
	case "M":
		return a.M == b.M
	case "Text":
		return string(a.Text) == string(b.Text)
	case "Cat":
		return a.Cat == b.Cat
	case "Seg":
		return slices.Equal(a.Seg, b.Seg)
	case "Write":
		return a.Write == b.Write
	}
	panic(field)
}

func TestLimits(t *testing.T) {
	if api.MostOp != 20 || api.MostNumber != most || api.MostText != 256 || api.MostDepth != 6 || api.MostEntries != 8 || api.MostOwn != 8 {
		t.Errorf("the tests are for other limits")
	}
	for _, op := range ops() {
		c := base(op)
		for _, field := range all() {
			if equalIn(c, api.Call{}, field) == has(op, field) {
				t.Errorf("%d: %s", op, field)
			}
		}
	}
}

// P11.1

func TestRight(t *testing.T) {
	for _, c := range samples() {
		if !Right(c) {
			t.Errorf("%v is not right", c)
		}
	}
	for _, x := range wrongs() {
		if Right(x.c) {
			t.Errorf("%s: %.200q is right", x.what, words(x.c.Op))
		}
	}
}

func TestRightKnown(t *testing.T) {
	for _, x := range []struct {
		c    api.Call
		want bool
	}{
		{api.Call{}, true},
		{api.Call{Op: 1}, true},
		{api.Call{N: 1}, false},
		{api.Call{Op: 1, N: 1}, false},
		{api.Call{Op: 1, Cat: "/0"}, false},
		{api.Call{Op: 2}, true},
		{api.Call{Op: 2, N: most, M: most}, true},
		{api.Call{Op: 2, N: most + 1}, false},
		{api.Call{Op: 2, M: most + 1}, false},
		{api.Call{Op: 2, Text: []byte{0}}, false},
		{api.Call{Op: 3, M: 1}, false},
		{api.Call{Op: 3, Own: []string{"1/0"}}, false},
		{api.Call{Op: 4, Own: []string{"1/0"}}, true},
		{api.Call{Op: 4, Own: []string{"1/0"}, Entry: lb("1/0=3")}, false},
		{api.Call{Op: 5, Own: []string{"1/0"}, Entry: lb("1/0=3"), M: 5}, true},
		{api.Call{Op: 6, M: 5}, false},
		{api.Call{Op: 7, N: 3, M: 4}, true},
		{api.Call{Op: 7, Label: lb("1/0=3")}, false},
		{api.Call{Op: 8, Text: make([]byte, 256)}, true},
		{api.Call{Op: 8, Text: make([]byte, 257)}, false},
		{api.Call{Op: 8, M: 1}, false},
		{api.Call{Op: 9, N: -1}, false},
		{api.Call{Op: 10, N: 1}, false},
		{api.Call{Op: 11, At: []int{1, 2, 3, 4, 5, 6}}, true},
		{api.Call{Op: 11, At: []int{1, 2, 3, 4, 5, 6, 7}}, false},
		{api.Call{Op: 12, Write: true}, false},
		{api.Call{Op: 13, N: -1 << 20}, true},
		{api.Call{Op: 13, N: 1 << 20}, true},
		{api.Call{Op: 13, N: -1<<20 - 1}, false},
		{api.Call{Op: 13, N: 1<<20 + 1}, false},
		{api.Call{Op: 14, Label: lb("1/0=3")}, true},
		{api.Call{Op: 14, At: []int{0}}, false},
		{api.Call{Op: 15, Entry: lb("1/0=3")}, false},
		{api.Call{Op: 16}, false},
		{api.Call{Op: 16, Cat: "/3"}, true},
		{api.Call{Op: 16, Cat: "3"}, false},
		{api.Call{Op: 17, Seg: []int{1}, Write: true}, true},
		{api.Call{Op: 17, Seg: []int{-1}}, false},
		{api.Call{Op: 18, Seg: []int{1}}, false},
		{api.Call{Op: 19, N: 3, M: 4}, true},
		{api.Call{Op: 19, Text: []byte("x")}, false},
		{api.Call{Op: 20, Text: []byte("x")}, true},
		{api.Call{Op: 20, M: 1}, false},
		{api.Call{Op: 21}, false},
		{api.Call{Op: -1}, false},
	} {
		if Right(x.c) != x.want {
			t.Errorf("%v: not %v", x.c, x.want)
		}
	}
}

// Two wrong things do not make up for each other, whichever parts have them.
func TestRightTwoWrong(t *testing.T) {
	for _, op := range ops() {
		for _, one := range words(op) {
			for _, other := range words(op) {
				if one == "Write" || other == "Write" {
					continue
				}
				c := base(op)
				setters(one, false)[0](&c)
				setters(other, false)[0](&c)
				if Right(c) {
					t.Errorf("%d: %s and %s", op, one, other)
				}
			}
		}
	}
}

// Fields that are empty but not nil are no fault, whether they are parts or not.
func TestRightEmpty(t *testing.T) {
	for _, op := range ops() {
		c := api.Call{Op: op, At: []int{}, Label: api.Label{}, Entry: api.Label{}, Own: []string{}, Text: []byte{}, Seg: []int{}}
		if has(op, "Cat") {
			c.Cat = "/0"
		}
		if !Right(c) {
			t.Errorf("%d", op)
		}
	}
}

// struck returns c without the fields that are not parts of it, as the chapter's table tells it.
func struck(c api.Call) api.Call {
	for _, field := range all() {
		if !has(c.Op, field) {
			clearField(&c, field)
		}
	}
	return c
}

// clearField makes a field zero.
func clearField(c *api.Call, field string) {
	switch field {
	case "At":
		c.At = nil
	case "Label":
		c.Label = nil
	case "Entry":
		c.Entry = nil
	case "Own":
		c.Own = nil
	case "N":
		c.N = 0
	case "M":
		c.M = 0
	case "Text":
		c.Text = nil
	case "Cat":
		c.Cat = ""
	case "Seg":
		c.Seg = nil
	case "Write":
		c.Write = false
	}
}

func TestPlain(t *testing.T) {
	for _, c := range samples() {
		if p := Plain(c); !equal(p, c) {
			t.Errorf("%v: %v", c, p)
		}
	}
	for _, op := range slices.Concat(ops(), noOps()) {
		if p := Plain(filled(op)); !equal(p, struck(filled(op))) || p.Op != op {
			t.Errorf("%d: %v", op, p)
		}
	}
}

// Of a call that is not valid the parts stay as they are, and the rest is struck; what is left need not be valid.
func TestPlainOfWrong(t *testing.T) {
	for _, x := range wrongs() {
		if p := Plain(x.c); !equal(p, struck(x.c)) {
			t.Errorf("%s of %d", x.what, x.c.Op)
		}
		if strings.HasPrefix(x.what, "a ") && !Right(Plain(x.c)) {
			t.Errorf("%s of %d is not struck", x.what, x.c.Op)
		}
	}
}

func TestPlainOfNoCall(t *testing.T) {
	for _, op := range noOps() {
		if p := Plain(filled(op)); !equal(p, api.Call{Op: op}) {
			t.Errorf("%d: %v", op, p)
		}
	}
}

func TestPlainKnown(t *testing.T) {
	p := Plain(api.Call{Op: api.OpEnter, At: []int{3}, N: 4, Cat: "x"})
	if !equal(p, api.Call{Op: api.OpEnter, At: []int{3}}) {
		t.Errorf("%v", p)
	}
	p = Plain(api.Call{Op: api.OpFree, At: []int{-1, 7, 8, 9, 10, 11, 12, 13}, Seg: []int{3}})
	if !equal(p, api.Call{Op: api.OpFree, At: []int{-1, 7, 8, 9, 10, 11, 12, 13}}) {
		t.Errorf("%v", p)
	}
	p = Plain(api.Call{Op: api.OpMove, N: math.MinInt, M: 1})
	if !equal(p, api.Call{Op: api.OpMove, N: math.MinInt}) {
		t.Errorf("%v", p)
	}
	if p := Plain(filled(api.OpNothing)); !equal(p, api.Call{}) {
		t.Errorf("%v", p)
	}
}

// Each field counts in Same, whether it is a part or not, and whatever the Op is.
func TestSameFields(t *testing.T) {
	for _, op := range slices.Concat(ops(), noOps()) {
		for _, c := range []api.Call{{Op: op}, filled(op)} {
			if !Same(c, c) {
				t.Errorf("%d is not the same as itself", op)
			}
			for _, field := range all() {
				for _, x := range changed(c, field) {
					if Same(c, x) || Same(x, c) || !Same(x, x) {
						t.Errorf("%d: %s", op, field)
					}
				}
			}
			for _, other := range slices.Concat(ops(), noOps()) {
				x := c
				x.Op = other
				if Same(c, x) != (op == other) {
					t.Errorf("%d and %d", op, other)
				}
			}
		}
	}
}

// Same is what the fields are.
func TestSameAll(t *testing.T) {
	l := samples()
	for _, x := range wrongs() {
		l = append(l, x.c)
	}
	for i := 0; i < len(l); i += 3 {
		for k := 0; k < len(l); k += 7 {
			if Same(l[i], l[k]) != equal(l[i], l[k]) {
				t.Fatalf("%d and %d: %d, %d", i, k, l[i].Op, l[k].Op)
			}
		}
	}
}

func TestSameLists(t *testing.T) {
	for _, x := range [][2]api.Call{
		{{At: []int{1}}, {At: []int{1, 0}}},
		{{At: []int{1, 2}}, {At: []int{2, 1}}},
		{{At: []int{1}}, {Seg: []int{1}}},
		{{Label: lb("1/0=3")}, {Label: lb("1/0=2")}},
		{{Label: lb("1/0=3")}, {Label: lb("2/0=3")}},
		{{Label: lb("1/0=3,2/0=3")}, {Label: lb("2/0=3,1/0=3")}},
		{{Label: lb("1/0=3")}, {Label: lb("1/0=3,1/0=3")}},
		{{Label: lb("1/0=1")}, {}},
		{{Label: lb("1/0=3")}, {Entry: lb("1/0=3")}},
		{{Own: []string{"1/0"}}, {Own: []string{"1/0", "1/0"}}},
		{{Own: []string{"1/0", "2/0"}}, {Own: []string{"2/0", "1/0"}}},
		{{Own: []string{""}}, {}},
		{{Own: []string{"ab"}}, {Own: []string{"a", "b"}}},
		{{N: 1}, {M: 1}},
		{{Text: []byte{0}}, {}},
		{{Text: []byte("ab")}, {Text: []byte("ba")}},
		{{Text: []byte("ab")}, {Text: []byte("abc")}},
		{{Text: []byte("/0")}, {Cat: "/0"}},
		{{Cat: "1/0"}, {Cat: "01/0"}},
		{{At: []int{0}}, {}},
		{{Write: true}, {}},
		{{N: math.MinInt}, {N: math.MaxInt}},
	} {
		if Same(x[0], x[1]) || Same(x[1], x[0]) {
			t.Errorf("%v and %v", x[0], x[1])
		}
		if !Same(x[0], x[0]) || !Same(x[1], x[1]) {
			t.Errorf("%v or %v", x[0], x[1])
		}
	}
}

// Nil and empty lists are the same.
func TestSameEmpty(t *testing.T) {
	empty := api.Call{At: []int{}, Label: api.Label{}, Entry: api.Label{}, Own: []string{}, Text: []byte{}, Seg: []int{}}
	if !Same(empty, api.Call{}) || !Same(api.Call{}, empty) || !Same(empty, empty) {
		t.Errorf("nil and empty ones differ")
	}
}

// P11.2

// num is the encoding of a number.
func num(n int) []byte {
	var b []byte
	for ; n >= 128; n /= 128 {
		b = append(b, byte(n%128+128))
	}
	return append(b, byte(n))
}

// str is the encoding of a string.
func str(s string) []byte {
	return append(num(len(s)), s...)
}

// encoded is the encoding of a part.
func encoded(c api.Call, word string) []byte {
	var b []byte
	switch word {
	case "At", "Seg":
		p := c.At
		if word == "Seg" {
			p = c.Seg
		}
		b = num(len(p))
		for _, n := range p {
			b = append(b, num(n)...)
		}
	case "Label", "Entry":
		l := c.Label
		if word == "Entry" {
			l = c.Entry
		}
		b = num(len(l))
		for _, e := range l {
			b = slices.Concat(b, str(e.Cat), num(e.Level))
		}
	case "Own":
		b = num(len(c.Own))
		for _, cat := range c.Own {
			b = append(b, str(cat)...)
		}
	case "N":
		b = num(c.N)
	case "N-":
		b = num(c.N + 1<<20)
	case "M":
		b = num(c.M)
	case "Text":
		b = str(string(c.Text))
	case "Cat":
		b = str(c.Cat)
	case "Write":
		b = []byte{0}
		if c.Write {
			b = []byte{1}
		}
	}
	return b
}

// encoding is the encoding of a valid call, as the chapter tells it.
func encoding(c api.Call) []byte {
	b := num(c.Op)
	for _, word := range words(c.Op) {
		b = append(b, encoded(c, word)...)
	}
	return b
}

func TestBytesKnown(t *testing.T) {
	for _, x := range []struct {
		c    api.Call
		want string
	}{
		{api.Call{}, "\x00"},
		{api.Call{Op: 1}, "\x01"},
		{api.Call{Op: 2, At: []int{1}, Label: lb("1/0=3"), N: 100, M: 20}, "\x02\x01\x01\x01\x031/0\x03\x64\x14"},
		{api.Call{Op: 2}, "\x02\x00\x00\x00\x00"},
		{api.Call{Op: 3, At: []int{0}, Label: lb("1/0=2,2/0=0"), N: 300}, "\x03\x01\x00\x02\x031/0\x02\x032/0\x00\xac\x02"},
		{api.Call{Op: 4, At: []int{5, 6}, N: 1, Own: []string{"1/0", "10/12"}}, "\x04\x02\x05\x06\x00\x01\x02\x031/0\x0510/12"},
		{api.Call{Op: 5, At: []int{7}, Label: lb("1/0=3"), N: 9, Entry: lb("2/0=2"), Own: []string{"3/0"}, M: 5}, "\x05\x01\x07\x01\x031/0\x03\x09\x01\x032/0\x02\x01\x033/0\x05"},
		{api.Call{Op: 6, N: 1 << 20}, "\x06\x00\x00\x80\x80\x40"},
		{api.Call{Op: 7, At: []int{1}, N: 2, M: 3}, "\x07\x01\x01\x02\x03"},
		{api.Call{Op: 8, At: []int{1}, N: 2, Text: []byte("hi")}, "\x08\x01\x01\x02\x02hi"},
		{api.Call{Op: 8}, "\x08\x00\x00\x00"},
		{api.Call{Op: 9, At: []int{1}, N: 128}, "\x09\x01\x01\x80\x01"},
		{api.Call{Op: 10}, "\x0a\x00"},
		{api.Call{Op: 11, At: []int{1, 2, 3, 4, 5, 6}}, "\x0b\x06\x01\x02\x03\x04\x05\x06"},
		{api.Call{Op: 12, At: []int{1, 2}}, "\x0c\x02\x01\x02"},
		{api.Call{Op: 13, At: []int{4}}, "\x0d\x01\x04\x80\x80\x40"},
		{api.Call{Op: 13, At: []int{4}, N: -1 << 20}, "\x0d\x01\x04\x00"},
		{api.Call{Op: 13, At: []int{4}, N: -1<<20 + 1}, "\x0d\x01\x04\x01"},
		{api.Call{Op: 13, At: []int{4}, N: 1 << 20}, "\x0d\x01\x04\x80\x80\x80\x01"},
		{api.Call{Op: 13, At: []int{4}, N: -1}, "\x0d\x01\x04\xff\xff\x3f"},
		{api.Call{Op: 14, Label: lb("/3=3")}, "\x0e\x01\x02/3\x03"},
		{api.Call{Op: 14}, "\x0e\x00"},
		{api.Call{Op: 15, At: []int{1 << 20}}, "\x0f\x01\x80\x80\x40"},
		{api.Call{Op: 16, Cat: "1.3/10"}, "\x10\x061.3/10"},
		{api.Call{Op: 17, At: []int{1}, N: 2, Seg: []int{3, 4}, Write: true}, "\x11\x01\x01\x02\x02\x03\x04\x01"},
		{api.Call{Op: 17, At: []int{1}, N: 2, Seg: []int{3, 4}}, "\x11\x01\x01\x02\x02\x03\x04\x00"},
		{api.Call{Op: 18, At: []int{1}, N: 2}, "\x12\x01\x01\x02"},
		{api.Call{Op: 19, At: []int{1}, N: 2, M: 3}, "\x13\x01\x01\x02\x03"},
		{api.Call{Op: 20, At: []int{1}, N: 2, Text: []byte{0, 255}}, "\x14\x01\x01\x02\x02\x00\xff"},
		{api.Call{Op: 20, Text: make([]byte, 256)}, "\x14\x00\x00\x80\x02" + strings.Repeat("\x00", 256)},
	} {
		if b := Bytes(x.c); string(b) != x.want {
			t.Errorf("%v: %q, not %q", x.c, b, x.want)
		}
		if c, err := Parse([]byte(x.want)); err != nil || !equal(c, x.c) {
			t.Errorf("%q: %v %v, not %v", x.want, c, err, x.c)
		}
	}
}

func TestBytes(t *testing.T) {
	for _, c := range samples() {
		if b := Bytes(c); !bytes.Equal(b, encoding(c)) {
			t.Errorf("%v: %q, not %q", c, b, encoding(c))
		}
	}
}

func TestBytesOfWrong(t *testing.T) {
	for _, x := range wrongs() {
		if b := Bytes(x.c); len(b) != 0 {
			t.Errorf("%s of %d: %q", x.what, x.c.Op, b)
		}
	}
}

// What is put is behind what a pen has already, and ahead of what is written next.
func TestPut(t *testing.T) {
	for _, c := range samples() {
		var w tape.Pen
		if !Put(&w, c) || !bytes.Equal(w.Bytes(), encoding(c)) {
			t.Errorf("%v: %q", c, w.Bytes())
		}
		if !Put(&w, c) || !w.Number(300) || !Put(&w, c) {
			t.Errorf("%v is not put", c)
		}
		if want := slices.Concat(encoding(c), encoding(c), num(300), encoding(c)); !bytes.Equal(w.Bytes(), want) {
			t.Errorf("%v: %q, not %q", c, w.Bytes(), want)
		}
	}
}

// A call that is not valid writes nothing, whatever a pen has already, and it can be written on.
func TestPutWrong(t *testing.T) {
	for _, x := range wrongs() {
		var w tape.Pen
		if Put(&w, x.c) || len(w.Bytes()) != 0 {
			t.Errorf("%s of %d: %q", x.what, x.c.Op, w.Bytes())
		}
		w.Number(300)
		w.Text("hi")
		if Put(&w, x.c) || string(w.Bytes()) != "\xac\x02\x02hi" {
			t.Errorf("%s of %d: %q", x.what, x.c.Op, w.Bytes())
		}
		if !Put(&w, api.Call{Op: 12, At: []int{1, 2}}) || string(w.Bytes()) != "\xac\x02\x02hi\x0c\x02\x01\x02" {
			t.Errorf("%s of %d: %q", x.what, x.c.Op, w.Bytes())
		}
	}
}

// On a nil pen nothing is written; whether the call is valid is told all the same.
func TestNilPen(t *testing.T) {
	for _, c := range samples() {
		if !Put(nil, c) {
			t.Errorf("%v", c)
		}
	}
	for _, x := range wrongs() {
		if Put(nil, x.c) {
			t.Errorf("%s of %d", x.what, x.c.Op)
		}
	}
}

func TestGetWhatWasPut(t *testing.T) {
	for _, c := range samples() {
		for _, behind := range []string{"", "\x00", "hi", "\xff", string(encoding(c))} {
			r := tape.New(append(encoding(c), behind...))
			got, e := Get(r)
			if e != api.OK || !equal(got, c) || r.Err() != nil || r.Left() != len(behind) {
				t.Errorf("%v: %v %v, %v, %d left", c, got, e, r.Err(), r.Left())
			}
		}
	}
}

func TestGetSeveral(t *testing.T) {
	var w tape.Pen
	for _, c := range samples() {
		w.Number(1 << 40)
		Put(&w, c)
	}
	r := tape.New(w.Bytes())
	for _, c := range samples() {
		if r.Number(1<<40) != 1<<40 {
			t.Errorf("another number is ahead of %v", c)
		}
		if got, e := Get(r); e != api.OK || !equal(got, c) {
			t.Errorf("%v: %v %v", c, got, e)
		}
	}
	if r.End() != nil {
		t.Errorf("%v", r.End())
	}
}

// checkGet fails if getting a call from b does not return ErrForm, with this fault of the tape (or OK for none) and so many bytes left.
func checkGet(t *testing.T, b string, number api.Errno, left int) {
	t.Helper()
	r := tape.New([]byte(b))
	c, e := Get(r)
	if e != api.ErrForm || !equal(c, api.Call{}) {
		t.Errorf("%.100q: %v %v", b, c, e)
	}
	if fault.Code(r.Err()) != number || r.Left() != left {
		t.Errorf("%.100q: %v, %d left, not %v, %d", b, r.Err(), r.Left(), number, left)
	}
	checkParse(t, b, number, left)
}

// checkParse fails if parsing b does not return a fault ErrForm of call, with a cause of this number, or that of bytes that are left.
func checkParse(t *testing.T, b string, number api.Errno, left int) {
	t.Helper()
	c, err := Parse([]byte(b))
	if !equal(c, api.Call{}) || fault.Code(err) != api.ErrForm || fault.Place(err) != "call" {
		t.Errorf("%.100q: %v %v", b, c, err)
	}
	if number == api.OK && left > 0 {
		number = api.ErrForm
	}
	if number == api.OK {
		if fault.Depth(err) != 1 || err.Error() != "call: regency: error 10" {
			t.Errorf("%.100q: %v has a cause", b, err)
		}
		return
	}
	if fault.Depth(err) != 2 || err.Error() != "call: regency: error 10 < tape: "+number.Error() || !fault.Has(err, number) {
		t.Errorf("%.100q: %v, not with the cause %v", b, err, number)
	}
}

func TestGetFaults(t *testing.T) {
	long := strings.Repeat("1", 81)
	text := strings.Repeat("x", 257)
	for _, x := range []struct {
		b      string
		number api.Errno
		left   int
	}{
		// The Op.
		{"", api.ErrEnd, 0},
		{"\x15", api.ErrLong, 1},
		{"\x15\x00\x00", api.ErrLong, 3},
		{"\x7f", api.ErrLong, 1},
		{"\x80", api.ErrEnd, 1},
		{"\x80\x01", api.ErrLong, 2},
		{"\x80\x00", api.ErrForm, 2},
		{"\x8c\x00\x02\x01\x02", api.ErrForm, 5},
		{"\xff\xff\xff\xff\xff\xff\xff\xff\x7f", api.ErrLong, 9},
		{"\xff\xff\xff\xff\xff\xff\xff\xff\xff\x01", api.ErrForm, 10},
		// A path.
		{"\x0c", api.ErrEnd, 0},
		{"\x0c\x07\x00\x00\x00\x00\x00\x00\x00", api.ErrLong, 8},
		{"\x0c\x02\x01", api.ErrEnd, 0},
		{"\x0c\x02\x01\x82\x00", api.ErrForm, 2},
		{"\x0c\x82\x00\x01\x02", api.ErrForm, 4},
		{"\x0c\x01\x81\x80\x40", api.ErrLong, 3},
		{"\x11\x00\x00\x07", api.ErrLong, 1},
		{"\x11\x00\x00\x01\x81\x80\x40\x00", api.ErrLong, 4},
		// Numbers.
		{"\x09\x00", api.ErrEnd, 0},
		{"\x09\x00\x81\x80\x40", api.ErrLong, 3},
		{"\x09\x00\x80\x80\x80\x01", api.ErrLong, 4},
		{"\x09\x00\x81\x00", api.ErrForm, 2},
		{"\x12\x00\x81\x80\x40", api.ErrLong, 3},
		{"\x02\x00\x00\x81\x80\x40\x00", api.ErrLong, 4},
		{"\x02\x00\x00\x00\x81\x80\x40", api.ErrLong, 3},
		{"\x07\x00\x81\x80\x40\x00", api.ErrLong, 4},
		{"\x07\x00\x00\x81\x80\x40", api.ErrLong, 3},
		{"\x13\x00\x00\x81\x80\x40", api.ErrLong, 3},
		{"\x05\x00\x00\x00\x00\x00\x81\x80\x40", api.ErrLong, 3},
		// The N of a move.
		{"\x0d\x00\x81\x80\x80\x01", api.ErrLong, 4},
		{"\x0d\x00", api.ErrEnd, 0},
		{"\x0d\x00\x80\x00", api.ErrForm, 2},
		{"\x0d\x07\x00", api.ErrLong, 2},
		// Labels and ownerships.
		{"\x0e\x09", api.ErrLong, 1},
		{"\x0e\x01\x031/0\x04", api.ErrLong, 1},
		{"\x0e\x01\x51" + long + "\x02", api.ErrLong, 83},
		{"\x0e\x01\x031/", api.ErrEnd, 3},
		{"\x05\x00\x00\x00\x09", api.ErrLong, 1},
		{"\x05\x00\x00\x00\x01\x031/0\x04\x00\x00", api.ErrLong, 3},
		{"\x05\x00\x00\x00\x00\x09", api.ErrLong, 1},
		{"\x04\x00\x00\x00\x09", api.ErrLong, 1},
		{"\x04\x00\x00\x00\x01\x51" + long, api.ErrLong, 82},
		// Strings.
		{"\x08\x00\x00", api.ErrEnd, 0},
		{"\x08\x00\x00\x02h", api.ErrEnd, 2},
		{"\x08\x00\x00\x81\x02" + text, api.ErrLong, 259},
		{"\x14\x00\x00\x81\x02" + text, api.ErrLong, 259},
		{"\x08\x00\x00\x80\x02" + text[:255], api.ErrEnd, 257},
		{"\x08\x00\x00\x82\x00hi", api.ErrForm, 4},
		{"\x10", api.ErrEnd, 0},
		{"\x10\x031/", api.ErrEnd, 3},
		{"\x10\x83\x001/0", api.ErrForm, 5},
		{"\x10\x51" + long, api.ErrLong, 82},
		// The flag.
		{"\x11\x00\x00\x00", api.ErrEnd, 0},
		{"\x11\x00\x00\x00\x02", api.ErrLong, 1},
		{"\x11\x00\x00\x00\x81\x00", api.ErrForm, 2},
		// What is wrong without a fault of the tape does not end the reading: the fault behind it is met.
		{"\x02\x00\x01\x01x\x02\x81\x80\x40\x00", api.ErrLong, 4},
		{"\x02\x00\x01\x031/0\x01\x00", api.ErrEnd, 0},
		{"\x05\x00\x01\x01x\x02\x00\x00\x00", api.ErrEnd, 0},
		{"\x05\x00\x00\x00\x01\x01x\x02\x01\x01y\x81\x80\x40", api.ErrLong, 3},
		{"\x05\x00\x00\x00\x00\x02\x032/0\x031/0", api.ErrEnd, 0},
		// What is behind the fault counts for nothing.
		{"\x03\x07\x00\x00\x00\x00\x00\x00\x00\x00\x05", api.ErrLong, 10},
	} {
		checkGet(t, x.b, x.number, x.left)
	}
}

// All parts of what is not a call are read, and nothing behind it.
func TestGetWrongParts(t *testing.T) {
	for _, b := range []string{
		"\x0e\x01\x031/0\x01",
		"\x0e\x01\x01x\x02",
		"\x0e\x01\x00\x03",
		"\x0e\x02\x032/0\x02\x031/0\x02",
		"\x0e\x02\x031/0\x02\x031/0\x02",
		"\x02\x00\x01\x031/0\x01\x05\x06",
		"\x02\x01\x07\x01\x01x\x02\x05\x06",
		"\x03\x00\x01\x01x\x02\x05",
		"\x04\x00\x01\x01x\x02\x05\x01\x031/0",
		"\x04\x00\x00\x05\x01\x01x",
		"\x04\x00\x00\x05\x02\x032/0\x031/0",
		"\x04\x00\x00\x05\x02\x031/0\x031/0",
		"\x05\x00\x01\x01x\x02\x05\x01\x031/0\x02\x01\x032/0\x06",
		"\x05\x00\x00\x05\x01\x01x\x02\x01\x032/0\x06",
		"\x05\x00\x00\x05\x01\x031/0\x01\x00\x06",
		"\x05\x00\x00\x05\x00\x01\x01x\x06",
		"\x05\x00\x01\x01x\x02\x05\x01\x01y\x02\x01\x01z\x06",
		"\x06\x00\x01\x01x\x02\x05",
		"\x10\x00",
		"\x10\x01x",
		"\x10\x0401/0",
		"\x10\x031/ ",
		"\x10\x36" + strings.Repeat("1", 54),
		"\x10\x50" + strings.Repeat("1", 80),
	} {
		checkGet(t, b, api.OK, 0)
		checkGet(t, b+"\x02hi", api.OK, 3)
		checkGet(t, b+"\xff", api.OK, 1)
	}
}

// Bytes that end anywhere are not a call, and the tape's fault says so.
func TestGetTooShort(t *testing.T) {
	for _, c := range samples() {
		b := encoding(c)
		for n := range b {
			r := tape.New(b[:n])
			if got, e := Get(r); e != api.ErrForm || !equal(got, api.Call{}) || fault.Code(r.Err()) != api.ErrEnd {
				t.Fatalf("%v, %d bytes: %v %v, %v", c, n, got, e, r.Err())
			}
			checkParse(t, string(b[:n]), api.ErrEnd, 0)
		}
	}
}

func TestGetFromFaultyTape(t *testing.T) {
	for _, c := range samples() {
		b := append([]byte{5}, encoding(c)...)
		r := tape.New(b)
		r.Number(4)
		first := r.Err()
		got, e := Get(r)
		if e != api.ErrForm || !equal(got, api.Call{}) || r.Left() != len(b) || r.Err() != first {
			t.Errorf("%v: %v %v, %d left, %v", c, got, e, r.Left(), r.Err())
		}
	}
}

func TestGetFromNilTape(t *testing.T) {
	if c, e := Get(nil); e != api.ErrForm || !equal(c, api.Call{}) {
		t.Errorf("%v %v", c, e)
	}
}

// After a call that is not one, without a fault of the tape, the next one is got.
func TestGetAfterWrong(t *testing.T) {
	r := tape.New([]byte("\x10\x01x\x0c\x02\x01\x02"))
	if c, e := Get(r); e != api.ErrForm || !equal(c, api.Call{}) {
		t.Errorf("%v %v", c, e)
	}
	if c, e := Get(r); e != api.OK || !equal(c, api.Call{Op: 12, At: []int{1, 2}}) || r.Left() != 0 {
		t.Errorf("%v %v, %d left", c, e, r.Left())
	}
}

// The encoding that a call would have if it were valid is not got.
func TestGetWrongCalls(t *testing.T) {
	for _, x := range wrongs() {
		// A field that is no part is in no encoding.
		if len(words(x.c.Op)) == 0 || strings.HasPrefix(x.what, "a") || negative(x.c) {
			continue
		}
		b := encoding(x.c)
		if c, e := Get(tape.New(b)); e != api.ErrForm || !equal(c, api.Call{}) {
			t.Errorf("%s of %d: %v %v", x.what, x.c.Op, c, e)
		}
		if c, err := Parse(b); fault.Code(err) != api.ErrForm || !equal(c, api.Call{}) {
			t.Errorf("%s of %d: %v %v", x.what, x.c.Op, c, err)
		}
	}
}

// negative reports whether some number of c has no encoding.
func negative(c api.Call) bool {
	n := c.N
	if c.Op == api.OpMove {
		n += most
	}
	for _, l := range [][]int{c.At, c.Seg, {n, c.M}} {
		if slices.ContainsFunc(l, func(n int) bool { return n < 0 }) {
			return true
		}
	}
	return slices.ContainsFunc(slices.Concat(c.Label, c.Entry), func(e api.Entry) bool { return e.Level < 0 })
}

func TestParse(t *testing.T) {
	for _, c := range samples() {
		if got, err := Parse(encoding(c)); err != nil || !equal(got, c) {
			t.Errorf("%v: %v %v", c, got, err)
		}
	}
}

func TestParseNoBytes(t *testing.T) {
	for _, b := range [][]byte{nil, {}, make([]byte, 0, 5)} {
		c, err := Parse(b)
		if !equal(c, api.Call{}) || err == nil || err.Error() != "call: regency: error 10 < tape: regency: error 11" {
			t.Errorf("%v %v", c, err)
		}
	}
}

// Bytes that are left over are a fault of the tape's End, whatever they are.
func TestParseLeftOver(t *testing.T) {
	for _, c := range samples() {
		for _, behind := range []string{"\x00", "\x01", "\xff", "hi", string(encoding(c))} {
			checkParse(t, string(encoding(c))+behind, api.OK, len(behind))
		}
	}
}

// Numbers with bytes that they do not need are a fault, wherever they are.
func TestParseNeedlessBytes(t *testing.T) {
	for _, c := range []api.Call{base(2), base(4), base(5), base(8), base(13), base(16), base(17)} {
		b := encoding(c)
		for i := range b {
			if b[i] >= 128 {
				continue
			}
			// The last byte of a number, or a byte of a string.
			x := slices.Concat(b[:i], []byte{b[i] + 128, 0}, b[i+1:])
			got, err := Parse(x)
			if fault.Code(err) != api.ErrForm || !equal(got, api.Call{}) {
				t.Errorf("%d, %d: %v %v", c.Op, i, got, err)
			}
		}
	}
	checkParse(t, "\x8c\x00\x02\x01\x02", api.ErrForm, 5)
	checkParse(t, "\x0c\x02\x81\x00\x02", api.ErrForm, 3)
	checkParse(t, "\x0d\x01\x04\x80\x80\xc0\x00", api.ErrForm, 4)
}

// P11.3

// random returns a call whose parts are what the lists have, all of them valid.
func random(r *rand.Rand) api.Call {
	c := api.Call{Op: r.Intn(21)}
	for _, word := range words(c.Op) {
		l := setters(word, true)
		l[r.Intn(len(l))](&c)
	}
	return c
}

func TestRoundTrip(t *testing.T) {
	r := rand.New(rand.NewSource(1))
	l := samples()
	for range 20000 {
		l = append(l, random(r))
	}
	for _, c := range l {
		b := Bytes(c)
		if !Right(c) || !bytes.Equal(b, encoding(c)) {
			t.Fatalf("%v: %q", c, b)
		}
		got, err := Parse(b)
		if err != nil || !equal(got, c) || !Same(got, c) || !Right(got) {
			t.Fatalf("%v: %v %v", c, got, err)
		}
		if !bytes.Equal(Bytes(got), b) {
			t.Fatalf("%v: %q", c, Bytes(got))
		}
	}
}

// Each number of a part is got as it was put.
func TestNumbersRoundTrip(t *testing.T) {
	for n := -most - 300; n <= most+300; n += 97 {
		checkRound(t, api.Call{Op: 13, N: n}, -most <= n && n <= most)
		checkRound(t, api.Call{Op: 7, N: n, M: 3}, 0 <= n && n <= most)
		checkRound(t, api.Call{Op: 2, N: 3, M: n}, 0 <= n && n <= most)
	}
	for n := -300; n <= 300; n++ {
		for _, near := range []int{-most, 0, most} {
			checkRound(t, api.Call{Op: 13, N: near + n}, -most <= near+n && near+n <= most)
			checkRound(t, api.Call{Op: 18, N: near + n}, 0 <= near+n && near+n <= most)
			checkRound(t, api.Call{Op: 5, M: near + n}, 0 <= near+n && near+n <= most)
		}
	}
}

// checkRound fails if c is not got as it was put, or is put though it is not valid.
func checkRound(t *testing.T, c api.Call, valid bool) {
	t.Helper()
	if Right(c) != valid || (len(Bytes(c)) > 0) != valid {
		t.Fatalf("%v: not %v", c, valid)
	}
	if got, err := Parse(Bytes(c)); valid && (err != nil || !equal(got, c)) {
		t.Fatalf("%v: %v %v", c, got, err)
	}
}

// Different calls have different encodings, of which none begins with another one.
func TestEncodingsDiffer(t *testing.T) {
	l := samples()
	for i, a := range l {
		for k := 0; k < len(l); k += 5 {
			if !equal(a, l[k]) && bytes.HasPrefix(Bytes(a), Bytes(l[k])) {
				t.Fatalf("%d and %d: %v, %v", i, k, a, l[k])
			}
		}
	}
}

// checkAny fails if b can be parsed and is not the encoding of a valid call. It reports whether it was parsed.
func checkAny(t *testing.T, b []byte) bool {
	t.Helper()
	c, err := Parse(b)
	if err != nil {
		if !equal(c, api.Call{}) || fault.Code(err) != api.ErrForm || fault.Place(err) != "call" || fault.Depth(err) > 2 {
			t.Fatalf("%q: %v %v", b, c, err)
		}
		return false
	}
	if !Right(c) || !bytes.Equal(Bytes(c), b) || !bytes.Equal(encoding(c), b) {
		t.Fatalf("%q: %v", b, c)
	}
	return true
}

// All bytes of up to two, and of three that begin with an Op.
func TestShortBytes(t *testing.T) {
	parsed := 0
	for n := range 1 << 16 {
		a, b := byte(n>>8), byte(n)
		for _, x := range [][]byte{{a}, {a, b}} {
			if checkAny(t, x) {
				parsed++
			}
		}
		if a > 20 {
			continue
		}
		for k := range 256 {
			if checkAny(t, []byte{a, b, byte(k)}) {
				parsed++
			}
		}
	}
	if parsed < 1000 {
		t.Errorf("%d calls", parsed)
	}
}

// Every bit of an encoding inverted.
func TestTurnedBits(t *testing.T) {
	for _, c := range samples() {
		b := encoding(c)
		for i := range 8 * min(len(b), 100) {
			x := bytes.Clone(b)
			x[i/8] ^= 1 << (i % 8)
			if checkAny(t, x) {
				if got, _ := Parse(x); equal(got, c) {
					t.Fatalf("%q and %q are %v", b, x, c)
				}
			}
		}
	}
}

// Encodings with some bytes replaced, removed or added.
func TestAnyBytes(t *testing.T) {
	r := rand.New(rand.NewSource(2))
	parsed := 0
	for range 40000 {
		b := encoding(random(r))
		for range r.Intn(4) {
			if len(b) == 0 {
				break
			}
			switch i := r.Intn(len(b)); r.Intn(4) {
			case 0:
				b = slices.Delete(b, i, i+1)
			case 1:
				b = slices.Insert(b, i, byte(r.Intn(256)))
			default:
				b[i] = byte(r.Intn(256)) >> r.Intn(8)
			}
		}
		if checkAny(t, b) {
			parsed++
		}
	}
	if parsed < 8000 || parsed > 36000 {
		t.Errorf("%d calls", parsed)
	}
}

// Random calls, valid and not, against what the layers below say of their parts.
func TestRandomCalls(t *testing.T) {
	r := rand.New(rand.NewSource(3))
	right := 0
	for range 20000 {
		c := random(r)
		for range r.Intn(3) {
			field := all()[r.Intn(10)]
			l := slices.Concat(setters(field, true), setters(field, true), setters(field, false))
			l[r.Intn(len(l))](&c)
		}
		want := isRight(c)
		if want {
			right++
		}
		if Right(c) != want || (len(Bytes(c)) > 0) != want {
			t.Fatalf("%v: not %v", c, want)
		}
		if p := Plain(c); !equal(p, struck(c)) || Same(c, p) != equal(c, p) {
			t.Fatalf("%v: %v", c, p)
		}
	}
	if right < 4000 || right > 18000 {
		t.Errorf("%d valid calls", right)
	}
}

// isRight reports whether c, whose Op is that of a call, is valid.
func isRight(c api.Call) bool {
	least := 0
	if c.Op == api.OpMove {
		least = -most
	}
	in := func(field string, valid bool) bool {
		return equalIn(c, api.Call{}, field) && !(field == "Cat" && has(c.Op, "Cat")) || has(c.Op, field) && valid
	}
	return in("At", path.Right(c.At)) && in("Seg", path.Right(c.Seg)) &&
		in("Label", label.Right(c.Label)) && in("Entry", label.Right(c.Entry)) && in("Own", owns.Right(c.Own)) &&
		in("N", least <= c.N && c.N <= most) && in("M", 0 <= c.M && c.M <= most) &&
		in("Text", len(c.Text) <= 256) && in("Cat", cats.Right(c.Cat)) && in("Write", true)
}

// Rules of all layers

// spare returns a copy of l with spare capacity, in which there are two more of x.
func spare[T any](l []T, x T) []T {
	return append(slices.Clone(l), x, x)[:len(l)]
}

// roomy returns a copy of c with spare capacity in all of its lists.
func roomy(c api.Call) api.Call {
	c.At = spare(c.At, 77)
	c.Label = spare(c.Label, api.Entry{Cat: "77/0", Level: 2})
	c.Entry = spare(c.Entry, api.Entry{Cat: "77/0", Level: 2})
	c.Own = spare(c.Own, "77/0")
	c.Text = spare(c.Text, 77)
	c.Seg = spare(c.Seg, 77)
	return c
}

// whole returns a copy of c, which has two more elements in all of its lists, those of the spare capacity.
func whole(c api.Call) api.Call {
	c.At = slices.Clone(c.At[:len(c.At)+2])
	c.Label = slices.Clone(c.Label[:len(c.Label)+2])
	c.Entry = slices.Clone(c.Entry[:len(c.Entry)+2])
	c.Own = slices.Clone(c.Own[:len(c.Own)+2])
	c.Text = slices.Clone(c.Text[:len(c.Text)+2])
	c.Seg = slices.Clone(c.Seg[:len(c.Seg)+2])
	return c
}

// fillUp writes x over a list and its spare capacity.
func fillUp[T any](l []T, x T) {
	l = l[:cap(l)]
	for i := range l {
		l[i] = x
	}
}

// over writes over all lists of a call, with their spare capacity.
func over(c api.Call) {
	fillUp(c.At, 99)
	fillUp(c.Label, api.Entry{Cat: "99/0", Level: 3})
	fillUp(c.Entry, api.Entry{Cat: "99/0", Level: 3})
	fillUp(c.Own, "99/0")
	fillUp(c.Text, 99)
	fillUp(c.Seg, 99)
}

// several returns calls of all sorts, with spare capacity.
func several() []api.Call {
	var l []api.Call
	for _, c := range samples() {
		l = append(l, roomy(c))
	}
	for _, x := range wrongs() {
		if len(x.c.Text) < 1000 {
			l = append(l, roomy(x.c))
		}
	}
	return l
}

func TestArgumentsStay(t *testing.T) {
	var w tape.Pen
	for _, c := range several() {
		was := whole(c)
		other := roomy(c)
		Right(c)
		Plain(c)
		Same(c, other)
		Same(other, c)
		Put(&w, c)
		Bytes(c)
		if !equal(whole(c), was) || !equal(whole(other), was) {
			t.Errorf("%v was changed", c)
		}
	}
	for _, c := range samples() {
		b := spare(encoding(c), 77)
		was := bytes.Clone(b[:len(b)+2])
		Parse(b)
		Parse(b[:len(b)-1])
		if !bytes.Equal(b[:len(b)+2], was) {
			t.Errorf("%q was changed to %q", was, b)
		}
	}
}

// Writing over an argument after the call, with its spare capacity, changes no result.
func TestArgumentsAreNotKept(t *testing.T) {
	for _, x := range samples() {
		c := roomy(x)
		p := Plain(c)
		b := Bytes(c)
		var w tape.Pen
		Put(&w, c)
		over(c)
		if !equal(p, x) || !bytes.Equal(b, encoding(x)) || !bytes.Equal(w.Bytes(), encoding(x)) {
			t.Errorf("%v: %v, %q, %q", x, p, b, w.Bytes())
		}
		b = encoding(x)
		got, err := Parse(b)
		clear(b)
		if err != nil || !equal(got, x) {
			t.Errorf("%v: %v %v", x, got, err)
		}
	}
}

// checkApart fails if two lists of c share memory: what they share is seen when one of them is written over.
func checkApart(t *testing.T, what string, c api.Call) {
	t.Helper()
	was := Plain(c)
	fillUp(c.At, 99)
	if !slices.Equal(c.Seg, was.Seg) {
		t.Errorf("%s: At and Seg are shared", what)
	}
	fillUp(c.Label, api.Entry{Cat: "99/0", Level: 3})
	if !slices.Equal(c.Entry, was.Entry) {
		t.Errorf("%s: Label and Entry are shared", what)
	}
}

// Results are new: writing over one, with its spare capacity, changes neither an argument nor another result.
func TestResultsAreNew(t *testing.T) {
	for _, c := range several() {
		was := whole(c)
		p, q := Plain(c), Plain(c)
		over(p)
		if !equal(whole(c), was) || !equal(q, struck(c)) {
			t.Errorf("%v: Plain is not new", c)
		}
		a, b := Bytes(c), Bytes(c)
		fillUp(a, 99)
		if !Right(c) {
			continue
		}
		if !bytes.Equal(b, encoding(c)) || !bytes.Equal(Bytes(c), b) {
			t.Errorf("%v: Bytes is not new", c)
		}
		x, _ := Parse(b)
		y, _ := Parse(b)
		over(x)
		if !equal(y, c) || !bytes.Equal(b, encoding(c)) {
			t.Errorf("%v: Parse is not new", c)
		}
	}
}

// The lists of one result are apart, also where those of the argument are one.
func TestListsAreApart(t *testing.T) {
	for _, op := range ops() {
		p, l := []int{1, 2}, lb("1/0=3")
		c := api.Call{Op: op, At: p, Seg: p, Label: l, Entry: l}
		checkApart(t, "Plain of "+strconv.Itoa(op), Plain(c))
		got, err := Parse(Bytes(base(op)))
		if err != nil {
			t.Errorf("%d: %v", op, err)
		}
		checkApart(t, "Parse of "+strconv.Itoa(op), got)
	}
}

// What a tape gave is not changed by what is got next, and a pen has what it had.
func TestResultsStay(t *testing.T) {
	var w tape.Pen
	for _, c := range samples() {
		Put(&w, c)
	}
	r := tape.New(w.Bytes())
	var got []api.Call
	for range samples() {
		c, _ := Get(r)
		got = append(got, c)
	}
	first := Bytes(base(5))
	for i, c := range samples() {
		if !equal(got[i], c) {
			t.Errorf("%v: %v", c, got[i])
		}
		Bytes(c)
	}
	if !bytes.Equal(first, encoding(base(5))) {
		t.Errorf("%q", first)
	}
}

// The same call gives the same result, whatever came in between.
func TestCallsAreApart(t *testing.T) {
	for _, c := range several() {
		right, p, b := Right(c), Plain(c), Bytes(c)
		Bytes(filled(5))
		Parse([]byte("\x0e\x01\x01x\x02"))
		if Right(c) != right || !equal(Plain(c), p) || !bytes.Equal(Bytes(c), b) {
			t.Errorf("%v", c)
		}
	}
}

// Long inputs end.
func TestLong(t *testing.T) {
	n := 1 << 18
	c := api.Call{At: make([]int, n), Label: make(api.Label, n), Entry: make(api.Label, n), Own: make([]string, n), Text: make([]byte, n), Cat: strings.Repeat("1.", n), Seg: make([]int, n)}
	for _, op := range slices.Concat(ops(), noOps()) {
		c.Op = op
		if Right(c) || len(Bytes(c)) != 0 || Put(nil, c) || !equal(Plain(c), struck(c)) || !Same(c, c) {
			t.Errorf("%d", op)
		}
	}
	for _, x := range []struct {
		first  byte
		number api.Errno
	}{
		{0, api.OK}, {6, api.ErrLong}, {16, api.OK}, {20, api.ErrLong}, {21, api.ErrLong}, {128, api.ErrForm}, {255, api.ErrForm},
	} {
		checkParse(t, strings.Repeat(string([]byte{x.first}), n), x.number, n)
	}
}
