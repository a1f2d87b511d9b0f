package crc

import (
	"bytes"
	"hash/crc32"
	"math/bits"
	"math/rand"
	"testing"
)

// longest is how many bytes the document's promise about inverted bits speaks of.
const longest = 4000

// byBits is the checksum as the document defines it, one bit after another.
func byBits(b []byte) uint32 {
	register := ^uint32(0)
	for _, x := range b {
		for i := range 8 {
			out := register&1 ^ uint32(x>>i)&1
			register >>= 1
			if out == 1 {
				register ^= 0xEDB88320
			}
		}
	}
	return ^register
}

// randomBytes returns n bytes that are the same in each run.
func randomBytes(n int, seed int64) []byte {
	b := make([]byte, n)
	rand.New(rand.NewSource(seed)).Read(b)
	return b
}

// samples returns byte strings of many lengths: random bytes, zeros, and ones.
func samples() [][]byte {
	l := [][]byte{nil, {}}
	for _, n := range []int{1, 2, 3, 4, 5, 7, 8, 9, 15, 16, 17, 63, 64, 65, 255, 256, 257, 1000, longest, 65536} {
		l = append(l, randomBytes(n, int64(n)), make([]byte, n), bytes.Repeat([]byte{0xFF}, n))
	}
	return l
}

// invert inverts bit i of b.
func invert(b []byte, i int) {
	b[i/8] ^= 1 << (i % 8)
}

func TestOfKnown(t *testing.T) {
	for _, x := range []struct {
		s string
		v uint32
	}{
		{"", 0},
		{"\x00", 0xD202EF8D},
		{"\x00\x00\x00\x00", 0x2144DF1C},
		{"\xFF", 0xFF000000},
		{"\xFF\xFF\xFF\xFF", 0xFFFFFFFF},
		{"a", 0xE8B7BE43},
		{"abc", 0x352441C2},
		{"123456789", 0xCBF43926},
		{"The quick brown fox jumps over the lazy dog", 0x414FA339},
	} {
		if v := Of([]byte(x.s)...); v != x.v {
			t.Errorf("%q: %08X, not %08X", x.s, v, x.v)
		}
	}
	if v := Of('1', '2', '3', '4', '5', '6', '7', '8', '9'); v != 0xCBF43926 {
		t.Errorf("of single bytes: %08X", v)
	}
	if v := Of(); v != 0 {
		t.Errorf("of nothing: %08X", v)
	}
}

// All strings of up to two bytes use every entry of the table from several registers.
func TestOfShort(t *testing.T) {
	for i := range 1 << 8 {
		if b := []byte{byte(i)}; Of(b...) != byBits(b) {
			t.Errorf("%X: %08X, not %08X", b, Of(b...), byBits(b))
		}
	}
	for i := range 1 << 16 {
		if b := []byte{byte(i >> 8), byte(i)}; Of(b...) != byBits(b) {
			t.Fatalf("%X: %08X, not %08X", b, Of(b...), byBits(b))
		}
	}
}

func TestOfSamples(t *testing.T) {
	for _, b := range samples() {
		v := Of(b...)
		if v != byBits(b) || v != crc32.ChecksumIEEE(b) {
			t.Errorf("%d bytes: %08X, not %08X", len(b), v, byBits(b))
		}
	}
}

func TestSumWithoutBytes(t *testing.T) {
	var s Sum
	if s.Value() != 0 {
		t.Errorf("zero value: %08X", s.Value())
	}
	s.Add(nil)
	s.Add([]byte{})
	if s.Value() != 0 {
		t.Errorf("no bytes added: %08X", s.Value())
	}
	s.Add([]byte("a"))
	s.Add(nil)
	s.Add([]byte{})
	if s.Value() != 0xE8B7BE43 {
		t.Errorf("no bytes added to a: %08X", s.Value())
	}
}

func TestNilSum(t *testing.T) {
	var s *Sum
	s.Add([]byte("123456789"))
	s.Add(nil)
	if s.Value() != 0 {
		t.Errorf("%08X", s.Value())
	}
}

// Each way to divide a byte string between three calls has the same checksum.
func TestSumInParts(t *testing.T) {
	b := randomBytes(40, 1)
	for i := range len(b) + 1 {
		for j := i; j <= len(b); j++ {
			var s Sum
			s.Add(b[:i])
			s.Add(b[i:j])
			s.Add(b[j:])
			if s.Value() != byBits(b) {
				t.Fatalf("%d %d: %08X, not %08X", i, j, s.Value(), byBits(b))
			}
		}
	}
}

// Value after each byte is the checksum so far, and asking for it changes nothing.
func TestSumByBytes(t *testing.T) {
	b := randomBytes(300, 2)
	s := new(Sum)
	for i := range b {
		s.Add(b[i : i+1])
		want := byBits(b[:i+1])
		if s.Value() != want || s.Value() != want {
			t.Fatalf("%d: %08X, not %08X", i, s.Value(), want)
		}
	}
}

func TestSumKeepsOrder(t *testing.T) {
	var s Sum
	s.Add([]byte("56789"))
	s.Add([]byte("1234"))
	if s.Value() != byBits([]byte("567891234")) || s.Value() == 0xCBF43926 {
		t.Errorf("%08X", s.Value())
	}
}

// Two sums have nothing in common, nor has a copy with what it was copied from.
func TestSumsAreApart(t *testing.T) {
	var a, b Sum
	a.Add([]byte("1234"))
	b.Add([]byte("a"))
	c := a
	c.Add([]byte("x"))
	a.Add([]byte("56789"))
	if a.Value() != 0xCBF43926 || b.Value() != 0xE8B7BE43 || c.Value() != byBits([]byte("1234x")) {
		t.Errorf("%08X %08X %08X", a.Value(), b.Value(), c.Value())
	}
}

func TestSealKnown(t *testing.T) {
	for _, x := range []struct{ s, sealed string }{
		{"", "\x00\x00\x00\x00"},
		{"a", "a\xE8\xB7\xBE\x43"},
		{"123456789", "123456789\xCB\xF4\x39\x26"},
	} {
		if b := Seal([]byte(x.s)); string(b) != x.sealed {
			t.Errorf("%q: %X, not %X", x.s, b, x.sealed)
		}
	}
	if b := Seal(nil); string(b) != "\x00\x00\x00\x00" {
		t.Errorf("nil: %X", b)
	}
}

func TestSealAndOpen(t *testing.T) {
	for _, b := range samples() {
		sealed := Seal(b)
		v := byBits(b)
		want := append(bytes.Clone(b), byte(v>>24), byte(v>>16), byte(v>>8), byte(v))
		if !bytes.Equal(sealed, want) {
			t.Errorf("%d bytes: sealed otherwise", len(b))
		}
		if x, ok := Open(sealed); !ok || !bytes.Equal(x, b) {
			t.Errorf("%d bytes: %v, %d bytes", len(b), ok, len(x))
		}
	}
}

func TestOpenSealedTwice(t *testing.T) {
	once := Seal([]byte("abc"))
	x, ok := Open(Seal(once))
	if !ok || !bytes.Equal(x, once) {
		t.Errorf("%v %X", ok, x)
	}
}

// refused fails if b is opened, or if there are bytes beside false.
func refused(t *testing.T, b []byte) {
	t.Helper()
	if x, ok := Open(b); ok || len(x) != 0 {
		t.Errorf("%X: %v %X", b, ok, x)
	}
}

func TestOpenFewerThanFour(t *testing.T) {
	refused(t, nil)
	refused(t, []byte{})
	for n := range sealLen {
		refused(t, make([]byte, n))
		refused(t, bytes.Repeat([]byte{0xFF}, n))
		refused(t, Seal(nil)[:n])
		// The bytes behind the end are not looked at, though with them it would be sealed.
		refused(t, make([]byte, n, 64))
	}
}

// Of the four bytes without any before them, only zeros are sealed.
func TestOpenFour(t *testing.T) {
	if x, ok := Open([]byte{0, 0, 0, 0}); !ok || len(x) != 0 {
		t.Errorf("%v %X", ok, x)
	}
	for i := range sealLen {
		for v := 1; v < 256; v++ {
			b := make([]byte, sealLen)
			b[i] = byte(v)
			refused(t, b)
		}
	}
	refused(t, []byte{0xFF, 0xFF, 0xFF, 0xFF})
}

func TestOpenOthers(t *testing.T) {
	for _, b := range [][]byte{
		[]byte("123456789"),
		[]byte("a\x43\xBE\xB7\xE8"),           // least significant byte first
		[]byte("a\x17\x48\x41\xBC"),           // the register, not inverted
		[]byte("\xE8\xB7\xBE\x43a"),           // the checksum first
		Seal([]byte("abc"))[1:],               // a byte is missing at the start,
		Seal([]byte("abc"))[:6],               // at the end,
		append(Seal([]byte("abc")), 0),        // or one is added there,
		append([]byte{0}, Seal([]byte{9})...), // or at the start
		make([]byte, 100),
		bytes.Repeat([]byte{0xFE}, 100),
		randomBytes(1000, 3),
	} {
		refused(t, b)
	}
}

// Of all numbers that are near the checksum in value, only the checksum itself opens.
func TestOpenComparesAllOfTheSum(t *testing.T) {
	sealed := Seal([]byte("regency"))
	for i := len(sealed) - sealLen; i < len(sealed); i++ {
		for d := 1; d < 256; d++ {
			b := bytes.Clone(sealed)
			b[i] += byte(d)
			refused(t, b)
		}
	}
}

func TestOneBit(t *testing.T) {
	for _, n := range []int{0, 1, 2, 3, 4, 5, 100, longest - sealLen, longest} {
		b := Seal(randomBytes(n, int64(n)))
		for i := range 8 * len(b) {
			invert(b, i)
			if x, ok := Open(b); ok || len(x) != 0 {
				t.Errorf("%d bytes, bit %d", n, i)
			}
			invert(b, i)
		}
	}
}

func TestTwoBitsOfShort(t *testing.T) {
	for _, n := range []int{0, 1, 2, 5, 60} {
		b := Seal(randomBytes(n, int64(n)))
		for i := range 8 * len(b) {
			invert(b, i)
			for j := range i {
				invert(b, j)
				if x, ok := Open(b); ok || len(x) != 0 {
					t.Errorf("%d bytes, bits %d and %d", n, i, j)
				}
				invert(b, j)
			}
			invert(b, i)
		}
	}
}

func TestTwoBitsOfLong(t *testing.T) {
	b := Seal(randomBytes(longest, 4))
	n := 8 * len(b)
	r := rand.New(rand.NewSource(5))
	for k := range 8000 {
		i, j := r.Intn(n), r.Intn(n)
		switch k % 4 {
		case 0:
			j = (i + 1 + r.Intn(64)) % n // near each other
		case 1:
			j = n - 1 - r.Intn(8*sealLen) // one of the checksum
		}
		if i == j {
			continue
		}
		invert(b, i)
		invert(b, j)
		if x, ok := Open(b); ok || len(x) != 0 {
			t.Errorf("bits %d and %d", i, j)
		}
		invert(b, i)
		invert(b, j)
	}
}

// Every two bits of the longest string: what a bit changes in the checksum is at least two bits, so that no bit of the four bytes makes up for it, and is another change for each bit, so that no other bit does. That all strings are alike in this is what TestChangesAdd says.
func TestEveryTwoBits(t *testing.T) {
	b := randomBytes(longest, 6)
	before := Of(b...)
	seen := map[uint32]int{}
	for i := range 8 * len(b) {
		invert(b, i)
		change := before ^ Of(b...)
		invert(b, i)
		if bits.OnesCount32(change) < 2 {
			t.Errorf("bit %d changes %08X", i, change)
		}
		if j, ok := seen[change]; ok {
			t.Errorf("bits %d and %d change %08X", j, i, change)
		}
		seen[change] = i
	}
}

// What inverted bits change in the checksum does not depend on the other bits.
func TestChangesAdd(t *testing.T) {
	for n := range 200 {
		a, b, c := randomBytes(n, 7), randomBytes(n, 8), randomBytes(n, 9)
		all := make([]byte, n)
		for i := range all {
			all[i] = a[i] ^ b[i] ^ c[i]
		}
		if Of(all...) != Of(a...)^Of(b...)^Of(c...) {
			t.Errorf("%d bytes", n)
		}
	}
}

// guarded returns a slice of b's bytes with spare capacity behind them, and all that is behind the slice.
func guarded(b []byte) (part, whole []byte) {
	whole = append(bytes.Clone(b), bytes.Repeat([]byte{0xA5}, 16)...)
	return whole[:len(b)], whole
}

func TestArgumentsStay(t *testing.T) {
	for _, b := range [][]byte{{}, []byte("a"), []byte("123456789"), Seal(nil), Seal([]byte("abc"))} {
		part, whole := guarded(b)
		before := bytes.Clone(whole)
		var s Sum
		s.Add(part)
		Of(part...)
		Seal(part)
		Open(part)
		if !bytes.Equal(whole, before) {
			t.Errorf("%X became %X", before, whole)
		}
	}
}

func TestArgumentsAreNotKept(t *testing.T) {
	b := []byte("1234")
	var s Sum
	s.Add(b)
	clear(b)
	s.Add([]byte("56789"))
	if s.Value() != 0xCBF43926 {
		t.Errorf("%08X", s.Value())
	}
}

// fill writes over a result and its spare capacity.
func fill(b []byte) {
	b = b[:cap(b)]
	for i := range b {
		b[i] = 0x5A
	}
}

func TestResultsAreNewMemory(t *testing.T) {
	for _, b := range [][]byte{{}, []byte("a"), []byte("123456789"), randomBytes(1000, 10)} {
		part, whole := guarded(b)
		before := bytes.Clone(whole)
		sealed := Seal(part)
		again := Seal(part)
		fill(again)
		if !bytes.Equal(whole, before) || !bytes.Equal(sealed, Seal(b)) {
			t.Errorf("Seal of %d bytes shares memory", len(b))
		}
		part, whole = guarded(sealed)
		before = bytes.Clone(whole)
		x, _ := Open(part)
		y, _ := Open(part)
		fill(y)
		if !bytes.Equal(whole, before) || !bytes.Equal(x, b) {
			t.Errorf("Open of %d bytes shares memory", len(b))
		}
	}
}
