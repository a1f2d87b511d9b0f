package digest

import (
	"bytes"
	"encoding/binary"
	"math"
	"math/big"
	"math/rand"
	"testing"
)

// numbers returns whole numbers of any size.
func numbers(l ...int64) []*big.Int {
	r := make([]*big.Int, len(l))
	for i, n := range l {
		r[i] = big.NewInt(n)
	}
	return r
}

// whole is A times 2^32 plus B as the document defines them, with numbers of any size, so that nothing wraps round by itself.
func whole(data []byte) *big.Int {
	n := numbers(1, 40389, 16777619, 1<<32, 1<<7, 1<<25)
	a, b, factor, word, up, down := n[0], n[1], n[2], n[3], n[4], n[5]
	for _, c := range append(bytes.Clone(data), eight(uint64(len(data)))...) {
		a.Mul(a, factor).Add(a, big.NewInt(int64(c))).Mod(a, word)
		b.Add(b, a).Mod(b, word)
		low := new(big.Int).Div(b, down)
		b.Mul(b, up).Mod(b, word).Add(b, low)
	}
	return a.Mul(a, word).Add(a, b)
}

// byText is the digest as the document defines it.
func byText(b []byte) int {
	w := whole(b)
	return int(w.Mod(w, big.NewInt(1<<62)).Int64())
}

// eight returns n in eight bytes, least significant first.
func eight(n uint64) []byte {
	return binary.LittleEndian.AppendUint64(nil, n)
}

// randomBytes returns n bytes that are the same in each run.
func randomBytes(n int, seed int64) []byte {
	b := make([]byte, n)
	rand.New(rand.NewSource(seed)).Read(b)
	return b
}

// samples returns byte strings of many lengths: random bytes, zeros, and ones.
func samples() [][]byte {
	l := [][]byte{nil, {}}
	for _, n := range []int{1, 2, 3, 7, 8, 9, 15, 16, 17, 63, 64, 65, 255, 256, 257, 511, 512, 513, 1000, 65535, 65536, 65537} {
		l = append(l, randomBytes(n, int64(n)), make([]byte, n), bytes.Repeat([]byte{0xFF}, n))
	}
	return l
}

// wases returns numbers at the ends of what an int, a half of it, a byte and a digest can be, and some between.
func wases() []int {
	l := []int{0, math.MaxInt, math.MinInt, 0x0102030405060708, -0x0102030405060708}
	for _, n := range []int{1, 127, 128, 255, 256, 65535, 65536, 1<<31 - 1, 1 << 31, 1<<32 - 1, 1 << 32, 1<<62 - 1, 1 << 62, math.MaxInt - 1} {
		l = append(l, n, -n)
	}
	r := rand.New(rand.NewSource(1))
	for range 50 {
		l = append(l, int(r.Uint64()))
	}
	return l
}

// The numbers were found with another program in another language.
func TestOfKnown(t *testing.T) {
	all := make([]byte, 256)
	for i := range all {
		all[i] = byte(i)
	}
	for _, x := range []struct {
		b []byte
		v int
	}{
		{nil, 0x1D615F21A47ACEA1},
		{[]byte{}, 0x1D615F21A47ACEA1},
		{[]byte{0}, 0x159E1DEE8D25A4D6},
		{[]byte{0, 0}, 0x0132787F8E7F9E94},
		{[]byte{1}, 0x32FF7D0FEC9E6F62},
		{[]byte{0x80}, 0x064DAE6E197F9244},
		{[]byte{0xFF}, 0x199BDFCD477EF5AD},
		{[]byte("a"), 0x3783296F09AA7515},
		{[]byte("b"), 0x14E4889079274399},
		{[]byte("ab"), 0x1D09FF3406976664},
		{[]byte("abc"), 0x29A1E14E49B033A2},
		{[]byte("123456789"), 0x1096F49B765209E2},
		{[]byte("regency"), 0x114181C7B50883CF},
		{make([]byte, 8), 0x17066A198951BF0D},
		{make([]byte, 255), 0x0BBAC70066D1E020},
		{make([]byte, 256), 0x2F5F7B1AF5185D91},
		{make([]byte, 257), 0x29A4C1E7F6B51E22},
		{make([]byte, 65535), 0x34CAFC07323604B0},
		{make([]byte, 65536), 0x042CA6E483C1A31C},
		{make([]byte, 1<<24), 0x118D9E325054B3DD},
		{bytes.Repeat([]byte{0xFF}, 300), 0x1AF654568DF3469B},
		{all, 0x0046679A21338F22},
	} {
		if v := Of(x.b); v != x.v {
			t.Errorf("%d bytes: %016X, not %016X", len(x.b), v, x.v)
		}
	}
}

func TestOfShort(t *testing.T) {
	for i := range 1 << 8 {
		if b := []byte{byte(i)}; Of(b) != byText(b) {
			t.Errorf("%X: %016X, not %016X", b, Of(b), byText(b))
		}
	}
	for i := range 1 << 12 {
		if b := []byte{byte(i >> 4), byte(i * 17)}; Of(b) != byText(b) {
			t.Fatalf("%X: %016X, not %016X", b, Of(b), byText(b))
		}
	}
}

func TestOfSamples(t *testing.T) {
	for _, b := range samples() {
		if v, want := Of(b), byText(b); v != want {
			t.Errorf("%d bytes: %016X, not %016X", len(b), v, want)
		}
	}
}

func TestOfAllLengths(t *testing.T) {
	b := randomBytes(600, 2)
	for n := range len(b) + 1 {
		if v, want := Of(b[:n]), byText(b[:n]); v != want {
			t.Fatalf("%d bytes: %016X, not %016X", n, v, want)
		}
	}
}

// The length is behind the bytes, in eight bytes, and is not itself counted: the sum of the bytes and of a length that is written out goes through the same steps.
func TestLengthIsEightBytes(t *testing.T) {
	for _, n := range []int{0, 1, 8, 255, 256, 257, 65536} {
		b := randomBytes(n, int64(n))
		s := start()
		s.addBytes(b)
		s.addBytes(eight(uint64(n)))
		want := int((uint64(s.a)<<32 + uint64(s.b)) % (1 << 62))
		if v := Of(b); v != want {
			t.Errorf("%d bytes: %016X, not %016X", n, v, want)
		}
	}
}

// Zeros are not lost at the start or at the end.
func TestZerosCount(t *testing.T) {
	seen := map[int]int{}
	for n := range 1000 {
		v := Of(make([]byte, n))
		if m, ok := seen[v]; ok {
			t.Errorf("%d and %d zeros have %016X", m, n, v)
		}
		seen[v] = n
	}
	if Of([]byte{0, 1}) == Of([]byte{1}) || Of([]byte{1, 0}) == Of([]byte{1}) || Of([]byte{0, 1}) == Of([]byte{1, 0}) {
		t.Errorf("a zero is lost")
	}
}

func TestOfNoBytes(t *testing.T) {
	v := Of(nil)
	if Of([]byte{}) != v || Of(make([]byte, 0, 64)) != v || Of([]byte("abc")[:0]) != v {
		t.Errorf("no bytes differ from no bytes")
	}
	if v == Of([]byte{0}) || v == Of(make([]byte, 8)) {
		t.Errorf("zeros are no bytes")
	}
}

func TestPartsKnown(t *testing.T) {
	for _, x := range []struct {
		l []string
		v int
	}{
		{nil, 0x1D615F21A47ACEA1},
		{[]string{""}, 0x0A409D36FCAC257E},
		{[]string{"", ""}, 0x3FC845EBB30EA02C},
		{[]string{"", "", ""}, 0x19370D40A28E7CBC},
		{[]string{"\x00"}, 0x16623B693C3ED16B},
		{[]string{"a"}, 0x2EE0EC7A9E8BCD95},
		{[]string{"ab"}, 0x2790B0E1569FAB0D},
		{[]string{"a", "b"}, 0x07127DF613DF46FE},
		{[]string{"b", "a"}, 0x28D03B56816BE553},
		{[]string{"ab", ""}, 0x113243F6C73027AA},
		{[]string{"", "ab"}, 0x1D18599625F3E676},
		{[]string{"abc", "", "123456789"}, 0x221CEED1399AA8F6},
	} {
		var l [][]byte
		for _, s := range x.l {
			l = append(l, []byte(s))
		}
		if v := Parts(l...); v != x.v {
			t.Errorf("%q: %016X, not %016X", x.l, v, x.v)
		}
	}
}

func TestPartsSamples(t *testing.T) {
	all := samples()
	var joined []byte
	for i, b := range all {
		joined = append(joined, eight(uint64(Of(b)))...)
		if v, want := Parts(all[:i+1]...), byText(joined); v != want {
			t.Errorf("%d parts: %016X, not %016X", i+1, v, want)
		}
		if v, want := Parts(b), byText(eight(uint64(byText(b)))); v != want {
			t.Errorf("%d bytes: %016X, not %016X", len(b), v, want)
		}
	}
}

func TestPartsMany(t *testing.T) {
	l := make([][]byte, 1000)
	var joined []byte
	for i := range l {
		l[i] = randomBytes(i%5, int64(i))
		joined = append(joined, eight(uint64(Of(l[i])))...)
	}
	if v, want := Parts(l...), byText(joined); v != want {
		t.Errorf("%016X, not %016X", v, want)
	}
}

func TestNoParts(t *testing.T) {
	v := Of(nil)
	if Parts() != v || Parts([][]byte{}...) != v || Parts(make([][]byte, 0, 8)...) != v {
		t.Errorf("no parts: %016X, not %016X", Parts(), v)
	}
}

// An empty part is a part, and a nil one is an empty one.
func TestEmptyParts(t *testing.T) {
	seen := map[int]int{}
	for n := range 100 {
		l := make([][]byte, n)
		v := Parts(l...)
		if m, ok := seen[v]; ok {
			t.Errorf("%d and %d empty parts have %016X", m, n, v)
		}
		seen[v] = n
		for i := range l {
			l[i] = make([]byte, 0, i)
		}
		if Parts(l...) != v {
			t.Errorf("%d nil parts differ from empty ones", n)
		}
	}
	if Parts(nil, []byte("a")) != Parts([]byte{}, []byte("a")) || Parts([]byte("a"), nil) != Parts([]byte("a"), []byte{}) {
		t.Errorf("a nil part differs from an empty one")
	}
}

func TestPartsHaveEndsAndOrder(t *testing.T) {
	a, b, ab := []byte("a"), []byte("b"), []byte("ab")
	seen := map[int]int{}
	for i, v := range []int{Parts(ab), Parts(a, b), Parts(b, a), Parts(ab, nil), Parts(nil, ab), Parts(a, nil, b), Of(ab)} {
		if j, ok := seen[v]; ok {
			t.Errorf("%d and %d have %016X", j, i, v)
		}
		seen[v] = i
	}
}

func TestChainKnown(t *testing.T) {
	for _, x := range []struct {
		was int
		s   string
		v   int
	}{
		{0, "", 0x17066A198951BF0D},
		{0, "a", 0x25F35CA7BCFF5F4D},
		{0, "123456789", 0x1E0933D32A615F53},
		{1, "", 0x2DA38B74D45AC0E8},
		{2, "", 0x0440ACCF27901E4C},
		{-1, "", 0x33CF1D091706CF86},
		{-1, "a", 0x25E50C778F9F7FA4},
		{-2, "123456789", 0x0D7C244201DA8587},
		{255, "a", 0x0D1A1B66D4458042},
		{256, "a", 0x3C907E0210269D69},
		{1 << 31, "a", 0x3041EE27B5668BA4},
		{1 << 32, "a", 0x397FCCD818B97B4B},
		{1<<62 - 1, "a", 0x2F545637BC003103},
		{1 << 62, "a", 0x38239967B328FAD5},
		{math.MaxInt, "", 0x031F8C898A8CDD98},
		{math.MaxInt, "a", 0x018492F73249CC94},
		{math.MinInt, "", 0x07B5FA9915ABB0FB},
		{math.MinInt, "123456789", 0x250F5D5307B3622F},
		{0x0102030405060708, "123456789", 0x2F01E7E78F6E35E2},
	} {
		if v := Chain(x.was, []byte(x.s)); v != x.v {
			t.Errorf("%d %q: %016X, not %016X", x.was, x.s, v, x.v)
		}
	}
}

// A negative was is was + 2^64, which is found with numbers of any size here.
func TestChainSamples(t *testing.T) {
	for i, was := range wases() {
		n := big.NewInt(int64(was))
		if was < 0 {
			n.Add(n, new(big.Int).Lsh(big.NewInt(1), 64))
		}
		first := eight(n.Uint64())
		for _, b := range [][]byte{nil, {}, {0}, []byte("abc"), randomBytes(300, int64(i))} {
			want := byText(append(bytes.Clone(first), b...))
			if v := Chain(was, b); v != want {
				t.Errorf("%d, %d bytes: %016X, not %016X", was, len(b), v, want)
			}
		}
	}
}

func TestChainLong(t *testing.T) {
	for _, b := range samples() {
		want := byText(append(eight(uint64(len(b))), b...))
		if v := Chain(len(b), b); v != want {
			t.Errorf("%d bytes: %016X, not %016X", len(b), v, want)
		}
	}
}

func TestChainNoBytes(t *testing.T) {
	for _, was := range wases() {
		if Chain(was, nil) != Chain(was, []byte{}) || Chain(was, nil) != Chain(was, make([]byte, 0, 9)) {
			t.Errorf("%d: no bytes differ from no bytes", was)
		}
	}
	if Chain(0, nil) == Of(nil) || Chain(0, nil) != Of(make([]byte, 8)) {
		t.Errorf("0 is not eight zeros")
	}
}

// No two of these have the same digest, though their last or first 32 bits, or their amounts without a sign, are the same.
func TestChainTakesAllOfWas(t *testing.T) {
	seen := map[int]int{}
	for i := range 64 {
		for _, was := range []int{1 << i, -1 << i, 1<<i - 1, -1<<i - 1} {
			v := Chain(was, []byte("x"))
			if n, ok := seen[v]; ok && n != was {
				t.Errorf("%d and %d have %016X", n, was, v)
			}
			seen[v] = was
		}
	}
}

// A chain of digests is that of the document, link by link.
func TestChainOfDigests(t *testing.T) {
	was, want := 0, 0
	for i := range 500 {
		b := randomBytes(i%7, int64(i))
		was = Chain(was, b)
		want = byText(append(eight(uint64(want)), b...))
		if was != want {
			t.Fatalf("%d: %016X, not %016X", i, was, want)
		}
	}
}

// Digests are in the range, and reach to both of its ends: so it is A's two first bits that are left out, and no more. All four pairs of these bits occur.
func TestRange(t *testing.T) {
	least, greatest := math.MaxInt, math.MinInt
	pairs := map[uint64]int{}
	for i := range 1 << 16 {
		b := []byte{byte(i), byte(i >> 8)}
		for _, v := range []int{Of(b), Parts(b), Parts(b, b), Chain(i, b), Chain(-i-1, nil)} {
			if v < 0 || v > 1<<62-1 {
				t.Fatalf("%d: %016X", i, v)
			}
			least, greatest = min(least, v), max(greatest, v)
		}
		if i%64 == 0 {
			w := whole(b).Uint64()
			pairs[w>>62]++
			if v := Of(b); uint64(v) != w%(1<<62) {
				t.Errorf("%X: %016X of %016X", b, v, w)
			}
		}
	}
	if least >= 1<<50 || greatest < 1<<62-1<<50 || len(pairs) != 4 {
		t.Errorf("from %016X to %016X, %d pairs of bits", least, greatest, len(pairs))
	}
}

func TestRangeOfSamples(t *testing.T) {
	for _, b := range samples() {
		for _, was := range wases() {
			if len(b) > 1000 {
				break
			}
			if v := Chain(was, b); v < 0 || v > 1<<62-1 {
				t.Errorf("%d, %d bytes: %016X", was, len(b), v)
			}
		}
		for _, v := range []int{Of(b), Parts(b), Parts(b, nil), Parts(nil, b, b)} {
			if v < 0 || v > 1<<62-1 {
				t.Errorf("%d bytes: %016X", len(b), v)
			}
		}
	}
}

// guarded returns a slice of b's bytes with spare capacity behind them, and all that is behind the slice.
func guarded(b []byte, spare byte) (part, all []byte) {
	all = append(bytes.Clone(b), bytes.Repeat([]byte{spare}, 16)...)
	return all[:len(b)], all
}

// The digests depend on the bytes alone: not on where they are, on what is behind them, or on other calls.
func TestSameBytesElsewhere(t *testing.T) {
	for _, b := range samples() {
		of, parts, chain := Of(b), Parts(b, b), Chain(-5, b)
		x, _ := guarded(b, 0)
		y, _ := guarded(b, 0xA5)
		for _, c := range [][]byte{b, bytes.Clone(b), x, y, y[:len(b):len(b)], append([]byte{9}, b...)[1:]} {
			if Of(c) != of || Parts(c, b) != parts || Parts(b, c) != parts || Chain(-5, c) != chain {
				t.Errorf("%d bytes have other digests elsewhere", len(b))
			}
			Of([]byte("other"))
			Parts([]byte("other"), nil)
			Chain(7, []byte("other"))
		}
	}
}

func TestArgumentsStay(t *testing.T) {
	for _, b := range [][]byte{{}, {0}, []byte("a"), []byte("123456789"), randomBytes(300, 3)} {
		part, all := guarded(b, 0xA5)
		before := bytes.Clone(all)
		Of(part)
		Chain(math.MinInt, part)
		other := []byte("other")
		spare := []byte("spare")
		lists := [][]byte{part, nil, other, part, spare}
		list := lists[:4]
		Parts(list...)
		if !bytes.Equal(all, before) || string(other) != "other" || string(spare) != "spare" {
			t.Errorf("%X became %X", before, all)
		}
		if !same(lists[0], part) || lists[1] != nil || !same(lists[2], other) || !same(lists[3], part) || !same(lists[4], spare) {
			t.Errorf("the list of parts changed")
		}
	}
}

// same tells whether a and b are the same part of the same memory.
func same(a, b []byte) bool {
	return len(a) == len(b) && cap(a) == cap(b) && (cap(a) == 0 || &a[:1][0] == &b[:1][0])
}

// What is done to an argument after a call is seen by later calls with it, and by no others.
func TestArgumentsAreNotKept(t *testing.T) {
	b := []byte("123456789")
	of, parts, chain := Of(b), Parts(b, b), Chain(3, b)
	clear(b)
	if Of(b) != byText(make([]byte, 9)) || Of(b) == of || Parts(b, b) == parts || Chain(3, b) == chain {
		t.Errorf("digests of what the bytes were before")
	}
	b = []byte("123456789")
	if Of(b) != of || Parts(b, b) != parts || Chain(3, b) != chain {
		t.Errorf("digests changed with the argument")
	}
}
