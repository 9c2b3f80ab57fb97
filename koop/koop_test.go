package koop

import (
	"bytes"
	"hash/crc32"
	"math"
	"math/bits"
	"testing"
)

// mirror is the library's table of the same polynomial, whose bits stand the other way round.
var mirror = crc32.MakeTable(crc32.Koopman)

// mirrored is the sum behind b, by the library's way round, so that it shares no step with what it checks.
func mirrored(s uint32, b []byte) uint32 {
	turned := make([]byte, len(b))
	for i, x := range b {
		turned[i] = bits.Reverse8(x)
	}
	return bits.Reverse32(^crc32.Update(^bits.Reverse32(s), mirror, turned))
}

// lot draws numbers, the same ones every time.
type lot uint64

func (l *lot) draw() uint64 {
	*l = *l*6364136223846793005 + 1442695040888963407
	u := uint64(*l)
	return u ^ u>>29
}

// bytes draws n of them.
func (l *lot) bytes(n int) []byte {
	b := make([]byte, n)
	for i := range b {
		b[i] = byte(l.draw() >> 11)
	}
	return b
}

// sums are the ones about which a bit goes over, and some with mixed bits.
func sums() []uint32 {
	l := []uint32{0, math.MaxUint32, 0x741b8cd7, 0x8be47328, 0x12345678, 0xdeadbeef, 0x55555555, 0xaaaaaaaa, 0x00ffffff}
	for k := range 32 {
		l = append(l, 1<<k, ^uint32(1<<k), 1<<k-1)
	}
	return l
}

// wrongCounts are none of 0 to 2^20, some of them one only when cut to fewer bits.
func wrongCounts() []int {
	return []int{-1, -2, -1 << 20, 1<<20 + 1, 1 << 21, 1<<31 - 1, 1 << 31, 1 << 32, 1<<32 + 1, -1 << 32, -1<<32 + 1, math.MinInt, math.MinInt + 1, math.MaxInt}
}

func TestStepExamples(t *testing.T) {
	for _, c := range []struct {
		s    uint32
		x    byte
		want uint32
	}{
		{0, 0, 0},
		{1, 0, 0x100},
		{0x00800000, 0, 0x80000000}, // the eighth shift does not take the bit out
		{0x01000000, 0, 0x741b8cd7}, // it does here
		{0, 1, 0x741b8cd7},          // the byte goes into the highest bits
		{0x01000000, 1, 0},
		{0, 2, 0xe83719ae},
		{0, 4, 0xa475bf8b}, // what is added goes on being shifted
		{0xff000000, 0xff, 0},
		{0x00ffffff, 0, 0xffffff00},
		{0xff00000a, 0xff, 0xa00},
	} {
		if got := Step(c.s, c.x); got != c.want {
			t.Errorf("P3.1: Step(%#x, %#x) = %#x, not %#x", c.s, c.x, got, c.want)
		}
	}
}

func TestStepEachByte(t *testing.T) {
	for _, s := range sums() {
		for x := range 256 {
			want := mirrored(s, []byte{byte(x)})
			if got := Step(s, byte(x)); got != want {
				t.Errorf("P3.1: Step(%#x, %#x) = %#x, not %#x", s, x, got, want)
			}
		}
	}
}

func TestOfExamples(t *testing.T) {
	for _, c := range []struct {
		b    string
		want uint32
	}{
		{"", 0xffffffff},
		{"\xff", 0xffffff00}, // all ones meet all ones
		{"\xff\xff", 0xffff0000},
		{"\xff\xff\xff", 0xff000000},
		{"\xff\xff\xff\xff", 0},
		{"\xff\xff\xff\xff\x00\x00", 0},
		{"\xff\xff\xff\xff\x00\x01", 0x741b8cd7},
		{"123456789", 0x2eb14879},
	} {
		b := []byte(c.b)
		if got := Of(b); got != c.want {
			t.Errorf("P3.1: Of(%x) = %#x, not %#x", b, got, c.want)
		}
	}
}

func TestOfAgainstLibrary(t *testing.T) {
	l := lot(1)
	for _, n := range []int{1, 2, 3, 4, 5, 7, 8, 9, 27, 28, 29, 31, 32, 33, 255, 256, 257, 1000, 65536, 1 << 20, 1<<20 + 1} {
		for range 3 {
			b := l.bytes(n)
			if got, want := Of(b), mirrored(math.MaxUint32, b); got != want {
				t.Errorf("P3.1: Of of %d bytes = %#x, not %#x", n, got, want)
			}
		}
	}
}

func TestOfIsSteps(t *testing.T) {
	l := lot(2)
	b := l.bytes(300)
	s := uint32(math.MaxUint32)
	for n, x := range b {
		if got := Of(b[:n]); got != s {
			t.Fatalf("P3.1: Of of %d bytes = %#x, by Steps %#x", n, got, s)
		}
		s = Step(s, x)
	}
	// Bytes of 0 count too, ahead of the others and behind them.
	for n := range 40 {
		ahead := append(make([]byte, n), 7)
		if got, want := Of(ahead), Step(Zero(math.MaxUint32, n), 7); got != want {
			t.Errorf("P3.1: %d bytes of 0 ahead: %#x, not %#x", n, got, want)
		}
		behind := append([]byte{7}, make([]byte, n)...)
		if got, want := Of(behind), Zero(Step(math.MaxUint32, 7), n); got != want {
			t.Errorf("P3.1: %d bytes of 0 behind: %#x, not %#x", n, got, want)
		}
	}
}

// TestOfTellsTurnedByte: whichever byte is turned, and however, the sum is another one.
func TestOfTellsTurnedByte(t *testing.T) {
	l := lot(3)
	b := l.bytes(28)
	was := Of(b)
	for i := range b {
		for x := 1; x < 256; x++ {
			b[i] ^= byte(x)
			if Of(b) == was {
				t.Errorf("P3.1: byte %d turned by %#x is not told", i, x)
			}
			b[i] ^= byte(x)
		}
	}
}

func TestZeroExamples(t *testing.T) {
	for _, c := range []struct {
		s    uint32
		n    int
		want uint32
	}{
		{0, 0, 0}, {0, 1, 0}, {0, 1 << 20, 0},
		{0x12345678, 0, 0x12345678}, {math.MaxUint32, 0, math.MaxUint32},
		{1, 1, 0x100}, {1, 3, 0x01000000}, {1, 4, 0x741b8cd7},
		{0x80, 3, 0x80000000},
	} {
		if got := Zero(c.s, c.n); got != c.want {
			t.Errorf("P3.1: Zero(%#x, %d) = %#x, not %#x", c.s, c.n, got, c.want)
		}
	}
}

func TestZeroIsSteps(t *testing.T) {
	for _, s := range sums() {
		want := s
		for n := range 300 {
			if got := Zero(s, n); got != want {
				t.Fatalf("P3.1: Zero(%#x, %d) = %#x, by Steps %#x", s, n, got, want)
			}
			want = Step(want, 0)
		}
	}
}

func TestZeroAgainstLibrary(t *testing.T) {
	noughts := make([]byte, 1<<20)
	for _, s := range []uint32{1, 0x80000000, 0x12345678, 0x741b8cd7, math.MaxUint32} {
		for _, n := range []int{1000, 1<<16 - 1, 1 << 16, 1<<16 + 1, 1<<20 - 1, 1 << 20} {
			want := mirrored(s, noughts[:n])
			if got := Zero(s, n); got != want {
				t.Errorf("P3.1: Zero(%#x, %d) = %#x, not %#x", s, n, got, want)
			}
		}
	}
}

func TestZeroWrongCounts(t *testing.T) {
	for _, s := range sums() {
		for _, n := range wrongCounts() {
			if got := Zero(s, n); got != 0 {
				t.Errorf("P3.1: Zero(%#x, %d) = %#x, not 0", s, n, got)
			}
		}
	}
}

// TestOfNilIsEmpty holds P0.4.
func TestOfNilIsEmpty(t *testing.T) {
	for _, b := range [][]byte{nil, {}, make([]byte, 0, 9), []byte{1, 2, 3}[3:]} {
		if got := Of(b); got != math.MaxUint32 {
			t.Errorf("P0.4: Of nothing = %#x", got)
		}
	}
}

// TestOfLeavesItsList holds P0.3: the list is neither changed nor kept, and its spare room does not count.
func TestOfLeavesItsList(t *testing.T) {
	l := lot(4)
	whole := l.bytes(64)
	was := bytes.Clone(whole)
	part := whole[8:36]
	sum := Of(part)
	if !bytes.Equal(whole, was) {
		t.Errorf("P0.3: Of changed its argument: %x, not %x", whole, was)
	}
	if got := Of(bytes.Clone(part)); got != sum {
		t.Errorf("P0.5: Of hangs on what stands about its list: %#x, not %#x", sum, got)
	}
	for i := range whole {
		whole[i] = 0xff
	}
	if got := Of(was[8:36]); got != sum {
		t.Errorf("P0.3: Of kept its list: %#x, then %#x", sum, got)
	}
}

// TestAnyArguments holds P0.1 and P0.5: no call panics, and the same one, after others, answers the same.
func TestAnyArguments(t *testing.T) {
	type question struct {
		s uint32
		n int
	}
	type answers struct{ of, step, zero uint32 }
	ask := func(q question) answers {
		b := []byte{byte(q.n), byte(q.s), byte(q.s >> 8), byte(q.s >> 16)}
		return answers{Of(b), Step(q.s, byte(q.n)), Zero(q.s, q.n)}
	}
	first := make(map[question]answers)
	for _, s := range sums() {
		for _, n := range append(wrongCounts(), 0, 1, 2, 31, 1000) {
			q := question{s, n}
			first[q] = ask(q)
		}
	}
	for q, want := range first {
		if got := ask(q); got != want {
			t.Errorf("P0.5: %v: %v, then %v", q, want, got)
		}
	}
}
