package tape

import (
	"bytes"
	"math"
	"math/big"
	"math/rand"
	"strings"
	"testing"

	"regency/api"
	"regency/fault"
)

// largest is the greatest number that is written.
const largest = 1<<62 - 1

// digits is a number's encoding as the document defines it, by digits to the base 128.
func digits(n int) []byte {
	var b []byte
	for rest := big.NewInt(int64(n)); ; {
		var digit big.Int
		rest.DivMod(rest, big.NewInt(128), &digit)
		if rest.Sign() == 0 {
			return append(b, byte(digit.Int64()))
		}
		b = append(b, byte(digit.Int64()+128))
	}
}

// decoded is what reading a number of b should return: the number, its size and OK, or an error.
func decoded(b []byte, most int) (int, int, api.Errno) {
	last := 0
	for last < len(b) && b[last] >= 128 {
		last++
	}
	if last >= 9 && len(b) >= 10 {
		return 0, 0, api.ErrForm
	}
	if last == len(b) {
		return 0, 0, api.ErrEnd
	}
	if last > 0 && b[last] == 0 {
		return 0, 0, api.ErrForm
	}
	n := big.NewInt(0)
	for i := last; i >= 0; i-- {
		n.Mul(n, big.NewInt(128))
		n.Add(n, big.NewInt(int64(b[i]%128)))
	}
	if n.Cmp(big.NewInt(int64(most))) > 0 {
		return 0, 0, api.ErrLong
	}
	return int(n.Int64()), last + 1, api.OK
}

// numbers returns numbers that are written: those near each change of the length, and others.
func numbers() []int {
	l := []int{0, 1, 2, 126, 127, 300, 16384, largest - 1, largest}
	for i := 7; i < 62; i += 7 {
		l = append(l, 1<<i-2, 1<<i-1, 1<<i, 1<<i+1)
	}
	for i := range 62 {
		l = append(l, 1<<i)
	}
	r := rand.New(rand.NewSource(1))
	for range 2000 {
		l = append(l, r.Intn(largest)>>r.Intn(62))
	}
	return l
}

// texts returns strings of many lengths and bytes.
func texts() []string {
	l := []string{"", "a", "ab", "\x00", "\x80", "\xFF\xFE", "line\nline", "äöü€", "\x03abc"}
	for _, n := range []int{126, 127, 128, 129, 255, 256, 257, 16383, 16384, 65536} {
		l = append(l, strings.Repeat("x", n), strings.Repeat("\x00", n), strings.Repeat("\xFF", n))
	}
	return l
}

// edges returns byte strings at the edges of what is a number.
func edges() [][]byte {
	l := [][]byte{nil, {}}
	alphabet := []byte{0, 1, 2, 127, 128, 129, 255}
	part := [][]byte{{}}
	for range 4 {
		var longer [][]byte
		for _, b := range part {
			for _, x := range alphabet {
				longer = append(longer, append(bytes.Clone(b), x))
			}
		}
		l = append(l, longer...)
		part = longer
	}
	for n := 5; n <= 12; n++ {
		for _, x := range []byte{128, 129, 255} {
			b := bytes.Repeat([]byte{x}, n)
			l = append(l, b)
			for _, y := range []byte{0, 1, 63, 64, 127} {
				l = append(l, append(bytes.Clone(b), y), append(bytes.Clone(b), y, 7))
			}
		}
	}
	return l
}

// isFault fails if err is not a fault without a cause, of the place tape, with the number e.
func isFault(t *testing.T, err error, e api.Errno) {
	t.Helper()
	if fault.Code(err) != e || fault.Place(err) != "tape" || fault.Depth(err) != 1 {
		t.Errorf("%v, not tape's error %d", err, e)
	}
}

// stays fails if a tape that had the fault e does not keep it and its position, whatever is read.
func stays(t *testing.T, r *Tape, e api.Errno, left int) {
	t.Helper()
	for range 2 {
		isFault(t, r.Err(), e)
		isFault(t, r.End(), e)
		if r.Left() != left {
			t.Errorf("%d bytes left, not %d", r.Left(), left)
		}
		if n := r.Number(math.MaxInt); n != 0 {
			t.Errorf("number %d after a fault", n)
		}
		if n := r.Number(-1); n != 0 {
			t.Errorf("number %d after a fault", n)
		}
		if r.Flag() {
			t.Errorf("flag after a fault")
		}
		if s := r.Text(math.MaxInt); s != "" {
			t.Errorf("text %q after a fault", s)
		}
	}
}

func TestPenNumberKnown(t *testing.T) {
	for _, x := range []struct {
		n int
		s string
	}{
		{0, "\x00"},
		{1, "\x01"},
		{127, "\x7F"},
		{128, "\x80\x01"},
		{129, "\x81\x01"},
		{255, "\xFF\x01"},
		{256, "\x80\x02"},
		{300, "\xAC\x02"},
		{16383, "\xFF\x7F"},
		{16384, "\x80\x80\x01"},
		{1 << 20, "\x80\x80\x40"},
		{1 << 56, "\x80\x80\x80\x80\x80\x80\x80\x80\x01"},
		{largest, "\xFF\xFF\xFF\xFF\xFF\xFF\xFF\xFF\x3F"},
	} {
		var p Pen
		if !p.Number(x.n) || string(p.Bytes()) != x.s {
			t.Errorf("%d: %X, not %X", x.n, p.Bytes(), x.s)
		}
	}
}

func TestPenNumber(t *testing.T) {
	for _, n := range numbers() {
		var p Pen
		if !p.Number(n) || !bytes.Equal(p.Bytes(), digits(n)) {
			t.Errorf("%d: %X, not %X", n, p.Bytes(), digits(n))
		}
	}
}

func TestPenNumberOutOfRange(t *testing.T) {
	for _, n := range []int{-1, -2, -128, -300, math.MinInt, math.MinInt + 1, largest + 1, largest + 2, math.MaxInt - 1, math.MaxInt} {
		var p Pen
		if p.Number(n) || len(p.Bytes()) != 0 {
			t.Errorf("%d: %X", n, p.Bytes())
		}
		p.Number(5)
		if p.Number(n) || string(p.Bytes()) != "\x05" {
			t.Errorf("%d behind 5: %X", n, p.Bytes())
		}
		if !p.Number(6) || string(p.Bytes()) != "\x05\x06" {
			t.Errorf("6 behind %d: %X", n, p.Bytes())
		}
	}
}

func TestPenFlag(t *testing.T) {
	var p Pen
	p.Flag(true)
	if string(p.Bytes()) != "\x01" {
		t.Errorf("true: %X", p.Bytes())
	}
	p.Flag(false)
	p.Flag(true)
	if string(p.Bytes()) != "\x01\x00\x01" {
		t.Errorf("true, false, true: %X", p.Bytes())
	}
}

func TestPenText(t *testing.T) {
	for _, s := range texts() {
		var p Pen
		p.Text(s)
		if want := append(digits(len(s)), s...); !bytes.Equal(p.Bytes(), want) {
			t.Errorf("%d bytes: %X, not %X", len(s), p.Bytes(), want)
		}
	}
}

func TestPenKeepsOrder(t *testing.T) {
	var p Pen
	p.Text("ab")
	p.Number(300)
	p.Flag(true)
	p.Text("")
	p.Number(0)
	p.Flag(false)
	if string(p.Bytes()) != "\x02ab\xAC\x02\x01\x00\x00\x00" {
		t.Errorf("%X", p.Bytes())
	}
}

func TestZeroPen(t *testing.T) {
	var p Pen
	if len(p.Bytes()) != 0 || len(new(Pen).Bytes()) != 0 {
		t.Errorf("%X", p.Bytes())
	}
}

func TestNilPen(t *testing.T) {
	var p *Pen
	for _, n := range []int{0, 1, 300, largest, -1, math.MaxInt} {
		if p.Number(n) {
			t.Errorf("%d was written", n)
		}
	}
	p.Flag(true)
	p.Flag(false)
	p.Text("")
	p.Text("abc")
	if len(p.Bytes()) != 0 {
		t.Errorf("%X", p.Bytes())
	}
}

// Bytes takes nothing away, and two pens have nothing in common.
func TestPensAreApart(t *testing.T) {
	var p, q Pen
	p.Text("abc")
	q.Number(7)
	first, second := p.Bytes(), p.Bytes()
	if string(first) != "\x03abc" || string(second) != "\x03abc" || string(q.Bytes()) != "\x07" {
		t.Errorf("%X %X %X", first, second, q.Bytes())
	}
}

// fill writes over b and its spare capacity.
func fill(b []byte) {
	b = b[:cap(b)]
	for i := range b {
		b[i] = 0x5A
	}
}

func TestBytesAreNewMemory(t *testing.T) {
	var p Pen
	var want []byte
	for i := range 300 {
		before := p.Bytes()
		fill(p.Bytes())
		fill(append(p.Bytes(), 1, 2, 3))
		p.Number(i)
		if !bytes.Equal(before, want) {
			t.Fatalf("%d: bytes from before became %X, not %X", i, before, want)
		}
		want = append(want, digits(i)...)
		if !bytes.Equal(p.Bytes(), want) {
			t.Fatalf("%d: %X, not %X", i, p.Bytes(), want)
		}
	}
}

func TestTapeNumberKnown(t *testing.T) {
	for _, x := range []struct {
		s    string
		most int
		n    int
		left int
	}{
		{"\x00", 0, 0, 0},
		{"\x00\x00", 0, 0, 1},
		{"\x01", 1, 1, 0},
		{"\x7F", 127, 127, 0},
		{"\x80\x01", 128, 128, 0},
		{"\xAC\x02", 300, 300, 0},
		{"\xAC\x02\xAC\x02", largest, 300, 2},
		{"\xFF\xFF\xFF\xFF\xFF\xFF\xFF\xFF\x3F", largest, largest, 0},
		{"\xFF\xFF\xFF\xFF\xFF\xFF\xFF\xFF\x3F\xFF", math.MaxInt, largest, 1},
		{"\x80\x80\x80\x80\x80\x80\x80\x80\x40", largest + 1, largest + 1, 0},
		{"\xFF\xFF\xFF\xFF\xFF\xFF\xFF\xFF\x7F", math.MaxInt, math.MaxInt, 0},
	} {
		r := New([]byte(x.s))
		if n := r.Number(x.most); n != x.n || r.Err() != nil || r.Left() != x.left {
			t.Errorf("%X: %d %v, %d left", x.s, n, r.Err(), r.Left())
		}
	}
}

func TestTapeNumberFaults(t *testing.T) {
	for _, x := range []struct {
		s    string
		most int
		e    api.Errno
	}{
		{"", 0, api.ErrEnd},
		{"", -1, api.ErrEnd},
		{"\x80", largest, api.ErrEnd},
		{"\xFF\xFF", 0, api.ErrEnd},
		{"\xFF\xFF\xFF\xFF\xFF\xFF\xFF\xFF", largest, api.ErrEnd},
		{"\xFF\xFF\xFF\xFF\xFF\xFF\xFF\xFF\xFF", largest, api.ErrEnd},
		{"\x80\x80\x80\x80\x80\x80\x80\x80\x80", 0, api.ErrEnd},
		{"\xFF\xFF\xFF\xFF\xFF\xFF\xFF\xFF\xFF\x00", math.MaxInt, api.ErrForm},
		{"\xFF\xFF\xFF\xFF\xFF\xFF\xFF\xFF\xFF\x01", math.MaxInt, api.ErrForm},
		{"\x80\x80\x80\x80\x80\x80\x80\x80\x80\x01", 0, api.ErrForm},
		{"\xFF\xFF\xFF\xFF\xFF\xFF\xFF\xFF\xFF\xFF", -1, api.ErrForm},
		{"\x80\x80\x80\x80\x80\x80\x80\x80\x80\x80\x80\x01", math.MaxInt, api.ErrForm},
		{"\x80\x00", largest, api.ErrForm},
		{"\xFF\x00", 0, api.ErrForm}, // and not ErrLong, which comes after it
		{"\x81\x80\x00", largest, api.ErrForm},
		{"\xFF\xFF\xFF\xFF\xFF\xFF\xFF\xFF\x00", largest, api.ErrForm},
		{"\x00", -1, api.ErrLong},
		{"\x00", math.MinInt, api.ErrLong},
		{"\x01", 0, api.ErrLong},
		{"\x7F", 126, api.ErrLong},
		{"\xAC\x02", 299, api.ErrLong},
		{"\xFF\xFF\xFF\xFF\xFF\xFF\xFF\xFF\x3F", largest - 1, api.ErrLong},
		{"\x80\x80\x80\x80\x80\x80\x80\x80\x40", largest, api.ErrLong},
		{"\xFF\xFF\xFF\xFF\xFF\xFF\xFF\xFF\x7F", largest, api.ErrLong},
		{"\xFF\xFF\xFF\xFF\xFF\xFF\xFF\xFF\x7F", math.MaxInt - 1, api.ErrLong},
	} {
		r := New([]byte(x.s))
		if n := r.Number(x.most); n != 0 {
			t.Errorf("%X, most %d: %d", x.s, x.most, n)
		}
		stays(t, r, x.e, len(x.s))
	}
}

// near returns values of most at the edges, with those next to n.
func near(n int) []int {
	return []int{math.MinInt, -1, 0, 1, 127, 128, largest - 1, largest, largest + 1, math.MaxInt - 1, math.MaxInt, n - 1, n, min(n, math.MaxInt-1) + 1}
}

// agree fails if reading a number of b is other than the document defines it.
func agree(t *testing.T, b []byte, most int) {
	t.Helper()
	n, size, e := decoded(b, most)
	r := New(b)
	got := r.Number(most)
	if got != n || fault.Code(r.Err()) != e || r.Left() != len(b)-size {
		t.Errorf("%X, most %d: %d %v, %d left", b, most, got, r.Err(), r.Left())
	}
}

func TestTapeNumberByDefinition(t *testing.T) {
	for i := range 1 << 16 {
		agree(t, []byte{byte(i)}, i>>8)
		agree(t, []byte{byte(i >> 8), byte(i)}, 1<<14)
	}
	for _, b := range edges() {
		n, _, _ := decoded(b, math.MaxInt)
		for _, most := range near(n) {
			agree(t, b, most)
		}
	}
	r := rand.New(rand.NewSource(2))
	for range 20000 {
		b := make([]byte, r.Intn(14))
		r.Read(b)
		for i := range r.Intn(len(b) + 1) {
			b[i] |= 128
		}
		n, _, _ := decoded(b, math.MaxInt)
		for _, most := range near(n) {
			agree(t, b, most)
		}
	}
}

func TestTapeFlag(t *testing.T) {
	r := New([]byte("\x01\x00\x01\x02"))
	if !r.Flag() || r.Flag() || !r.Flag() || r.Err() != nil || r.Left() != 1 {
		t.Errorf("%v, %d left", r.Err(), r.Left())
	}
	if r.Flag() {
		t.Errorf("2 is a flag")
	}
	stays(t, r, api.ErrLong, 1)
}

func TestTapeFlagFaults(t *testing.T) {
	for _, b := range edges() {
		n, size, e := decoded(b, 1)
		r := New(b)
		if r.Flag() != (n == 1) || fault.Code(r.Err()) != e || r.Left() != len(b)-size {
			t.Errorf("%X: %v, %d left", b, r.Err(), r.Left())
		}
		if e != api.OK {
			stays(t, r, e, len(b))
		}
	}
}

func TestTapeText(t *testing.T) {
	for _, s := range texts() {
		b := append(digits(len(s)), s...)
		for _, most := range []int{len(s), len(s) + 1, largest, math.MaxInt} {
			r := New(append(bytes.Clone(b), "rest"...))
			if x := r.Text(most); x != s || r.Err() != nil || r.Left() != 4 {
				t.Errorf("%d bytes: %d, %v, %d left", len(s), len(x), r.Err(), r.Left())
			}
			r = New(b)
			if x := r.Text(most); x != s || r.End() != nil || r.Left() != 0 {
				t.Errorf("%d bytes to the end: %d, %v, %d left", len(s), len(x), r.End(), r.Left())
			}
		}
		for _, most := range []int{len(s) - 1, -1, math.MinInt} {
			r := New(b)
			if x := r.Text(most); x != "" {
				t.Errorf("%d bytes, most %d: %q", len(s), most, x)
			}
			stays(t, r, api.ErrLong, len(b))
		}
	}
}

// At every place where a string is cut off, the fault is ErrEnd, and nothing of it is read.
func TestTapeTextCutOff(t *testing.T) {
	for _, s := range []string{"a", "abc", strings.Repeat("y", 127), strings.Repeat("y", 128), strings.Repeat("y", 300)} {
		b := append(digits(len(s)), s...)
		for n := range b {
			r := New(b[:n])
			if x := r.Text(1000); x != "" {
				t.Errorf("%d of %d bytes: %q", n, len(b), x)
			}
			stays(t, r, api.ErrEnd, n)
		}
	}
}

func TestTapeTextFaults(t *testing.T) {
	for _, x := range []struct {
		s    string
		most int
		e    api.Errno
	}{
		{"", 9, api.ErrEnd},
		{"\x80", 9, api.ErrEnd},
		{"\x03ab", 9, api.ErrEnd},
		{"\x03ab", 3, api.ErrEnd},
		{"\x03ab", 2, api.ErrLong}, // ahead of the missing bytes
		{"\x03abc", 2, api.ErrLong},
		{"\x00", -1, api.ErrLong},
		{"\x83\x00abc", 9, api.ErrForm},
		{"\xFF\x00", 9, api.ErrForm},
		{"\x80\x80\x80\x80\x80\x80\x80\x80\x80\x01abc", 9, api.ErrForm},
		{"\x80\x80\x80\x80\x80\x80\x80\x80\x80", 9, api.ErrEnd},
		{"\xFF\xFF\xFF\xFF\xFF\xFF\xFF\xFF\x3Fabc", largest, api.ErrEnd},
		{"\xFF\xFF\xFF\xFF\xFF\xFF\xFF\xFF\x7Fabc", math.MaxInt, api.ErrEnd},
		{"\xF8\xFF\xFF\xFF\xFF\xFF\xFF\xFF\x7Fabc", math.MaxInt, api.ErrEnd},
		{"\xFF\xFF\xFF\xFF\xFF\xFF\xFF\xFF\x7Fabc", largest, api.ErrLong},
	} {
		r := New([]byte(x.s))
		if s := r.Text(x.most); s != "" {
			t.Errorf("%X, most %d: %q", x.s, x.most, s)
		}
		stays(t, r, x.e, len(x.s))
	}
}

// The position after a fault is that before what caused it, behind what was read.
func TestLeftBehindValues(t *testing.T) {
	for _, x := range []struct {
		s    string
		read func(r *Tape)
		e    api.Errno
	}{
		{"\x02", func(r *Tape) { r.Flag() }, api.ErrLong},
		{"\xAC\x02", func(r *Tape) { r.Number(299) }, api.ErrLong},
		{"\x80\x00", func(r *Tape) { r.Number(9) }, api.ErrForm},
		{"\x80\x80", func(r *Tape) { r.Number(9) }, api.ErrEnd},
		{"\x03ab", func(r *Tape) { r.Text(9) }, api.ErrEnd},
		{"\x03abc", func(r *Tape) { r.Text(2) }, api.ErrLong},
		{"\x83\x00abc", func(r *Tape) { r.Text(9) }, api.ErrForm},
	} {
		r := New([]byte("\xAC\x02\x01\x02hi" + x.s))
		if n, b, s := r.Number(300), r.Flag(), r.Text(2); n != 300 || !b || s != "hi" || r.Err() != nil {
			t.Errorf("%d %v %q %v", n, b, s, r.Err())
		}
		if r.Left() != len(x.s) {
			t.Errorf("%X: %d left", x.s, r.Left())
		}
		x.read(r)
		stays(t, r, x.e, len(x.s))
	}
}

// A tape keeps its first fault, also where another call would have another one.
func TestFirstFault(t *testing.T) {
	r := New([]byte("\x05abc"))
	r.Number(4)
	r.Text(9)
	r.Number(9)
	stays(t, r, api.ErrLong, 4)
	r = New([]byte("\x05abc"))
	r.Text(9)
	r.Number(4)
	stays(t, r, api.ErrEnd, 4)
}

func TestEnd(t *testing.T) {
	for _, b := range [][]byte{nil, {}} {
		if r := New(b); r.End() != nil || r.Err() != nil || r.Left() != 0 {
			t.Errorf("%v %v %d", r.End(), r.Err(), r.Left())
		}
	}
	r := New([]byte("\x05\x06"))
	isFault(t, r.End(), api.ErrForm)
	if r.Err() != nil || r.Left() != 2 {
		t.Errorf("End changed the tape: %v, %d left", r.Err(), r.Left())
	}
	if r.Number(9) != 5 {
		t.Errorf("not 5")
	}
	isFault(t, r.End(), api.ErrForm)
	if r.Number(9) != 6 || r.End() != nil || r.Err() != nil || r.Left() != 0 {
		t.Errorf("%v %v, %d left", r.End(), r.Err(), r.Left())
	}
	r.Number(9)
	stays(t, r, api.ErrEnd, 0)
}

func TestNilTape(t *testing.T) {
	var r *Tape
	stays(t, r, api.ErrNil, 0)
}

func TestTapeOfNothing(t *testing.T) {
	for _, read := range []func(r *Tape){
		func(r *Tape) { r.Number(9) },
		func(r *Tape) { r.Flag() },
		func(r *Tape) { r.Text(9) },
	} {
		for _, b := range [][]byte{nil, {}} {
			r := New(b)
			read(r)
			stays(t, r, api.ErrEnd, 0)
		}
	}
}

// value is what one call writes or reads.
type value struct {
	kind int // 0: a number, 1: a flag, 2: a string
	n    int
	b    bool
	s    string
}

// write writes v.
func (v value) write(p *Pen) {
	switch v.kind {
	case 0:
		p.Number(v.n)
	case 1:
		p.Flag(v.b)
	default:
		p.Text(v.s)
	}
}

// read reads a value of a kind.
func read(r *Tape, kind, most int) value {
	switch kind {
	case 0:
		return value{n: r.Number(most)}
	case 1:
		return value{kind: 1, b: r.Flag()}
	default:
		return value{kind: 2, s: r.Text(most)}
	}
}

// least returns the least most with which v can be read.
func (v value) least() int {
	if v.kind == 2 {
		return len(v.s)
	}
	return v.n
}

// randomValue returns a value of any kind.
func randomValue(r *rand.Rand) value {
	switch r.Intn(3) {
	case 0:
		return value{n: r.Intn(largest+1) >> r.Intn(62)}
	case 1:
		return value{kind: 1, b: r.Intn(2) == 1}
	}
	b := make([]byte, r.Intn(1<<r.Intn(9)))
	r.Read(b)
	return value{kind: 2, s: string(b)}
}

func TestReadWhatWasWritten(t *testing.T) {
	random := rand.New(rand.NewSource(3))
	for range 3000 {
		var p Pen
		var values []value
		for range random.Intn(12) {
			v := randomValue(random)
			v.write(&p)
			values = append(values, v)
		}
		r := New(p.Bytes())
		for i, v := range values {
			if x := read(r, v.kind, v.least()); x != v || r.Err() != nil {
				t.Fatalf("%d: %v, not %v; %v", i, x, v, r.Err())
			}
		}
		if r.End() != nil {
			t.Fatalf("%v", r.End())
		}
	}
}

func TestReadNumbersWritten(t *testing.T) {
	for _, n := range numbers() {
		var p Pen
		p.Number(n)
		r := New(p.Bytes())
		if x := r.Number(n); x != n || r.End() != nil {
			t.Errorf("%d: %d %v", n, x, r.End())
		}
	}
}

// rewritten reads b to its end by calls of these kinds, over and over, and fails if writing the results yields other bytes.
func rewritten(t *testing.T, b []byte, kinds []int) bool {
	t.Helper()
	r := New(b)
	var p Pen
	for i := 0; r.Left() > 0 && r.Err() == nil; i++ {
		read(r, kinds[i%len(kinds)], largest).write(&p)
	}
	if r.End() != nil {
		return false
	}
	if !bytes.Equal(p.Bytes(), b) {
		t.Errorf("%X by %v: written as %X", b, kinds, p.Bytes())
	}
	return true
}

func TestWriteWhatWasRead(t *testing.T) {
	kinds := [][]int{{0}, {1}, {2}, {0, 1}, {0, 2}, {2, 0}, {2, 1, 0}}
	for i := range 1 << 16 {
		for _, l := range kinds {
			rewritten(t, []byte{byte(i >> 8), byte(i)}, l)
		}
	}
	for _, b := range edges() {
		for _, l := range kinds {
			rewritten(t, b, l)
		}
	}
	random := rand.New(rand.NewSource(4))
	whole := 0
	for range 50000 {
		b := make([]byte, random.Intn(20))
		for i := range b {
			b[i] = byte(random.Intn(256)) >> random.Intn(8)
		}
		if rewritten(t, b, kinds[random.Intn(len(kinds))]) {
			whole++
		}
	}
	if whole < 5000 {
		t.Errorf("only %d were read to their end", whole)
	}
}

func TestArgumentStays(t *testing.T) {
	whole := []byte("\xAC\x02\x01\x03abc\x02++++++++")
	before := bytes.Clone(whole)
	r := New(whole[:8])
	r.Number(300)
	r.Flag()
	r.Text(3)
	r.Flag()
	r.Text(9)
	if !bytes.Equal(whole, before) {
		t.Errorf("%X became %X", before, whole)
	}
	if r.Left() != 1 {
		t.Errorf("%d left: the bytes behind the slice do not belong to it", r.Left())
	}
}

func TestArgumentIsNotKept(t *testing.T) {
	b := []byte("\xAC\x02\x01\x03abc")
	r := New(b)
	fill(b)
	if n, f, s := r.Number(300), r.Flag(), r.Text(3); n != 300 || !f || s != "abc" || r.End() != nil {
		t.Errorf("%d %v %q %v", n, f, s, r.End())
	}
}

// Two tapes of the same bytes are read apart.
func TestTapesAreApart(t *testing.T) {
	b := []byte("\x05\x06")
	r, q := New(b), New(b)
	r.Number(0)
	if q.Number(9) != 5 || q.Number(9) != 6 || q.End() != nil {
		t.Errorf("%v", q.End())
	}
	stays(t, r, api.ErrLong, 2)
}
