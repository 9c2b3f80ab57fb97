package zig

import (
	"math"
	"math/big"
	"testing"
)

// numbers are the ones about which a width, a sign or a byte goes over: each
// power of two, its neighbours and their opposites, and some with mixed bits.
func numbers() []int64 {
	l := []int64{math.MinInt64, math.MinInt64 + 1, math.MaxInt64, math.MaxInt64 - 1, 0x0123456789abcdef, -0x0123456789abcdef, 0x5555555555555555, -0x5555555555555556}
	for k := range 63 {
		for d := int64(-2); d <= 2; d++ {
			n := int64(1)<<k + d
			l = append(l, n, -n)
		}
	}
	return l
}

// wrongWidths are none of 1 to 64, some of them one only when cut to fewer bits.
func wrongWidths() []int {
	return []int{0, -1, -64, 65, 66, 128, 129, 1 << 8, 1<<8 + 1, 1<<32 + 8, -1<<32 + 8, math.MinInt + 8, math.MinInt, math.MaxInt}
}

func TestZigExamples(t *testing.T) {
	for _, x := range []struct {
		n int64
		u uint64
	}{
		{0, 0}, {-1, 1}, {1, 2}, {-2, 3}, {2, 4}, {-3, 5},
		{1000, 2000}, {-1000, 1999},
		{math.MaxInt32, math.MaxUint32 - 1}, {math.MinInt32, math.MaxUint32},
		{math.MaxInt64, math.MaxUint64 - 1}, {math.MinInt64, math.MaxUint64},
		{math.MinInt64 + 1, math.MaxUint64 - 2},
	} {
		if got := Zig(x.n); got != x.u {
			t.Errorf("P1.1: Zig(%d) = %d, not %d", x.n, got, x.u)
		}
		if got := Zag(x.u); got != x.n {
			t.Errorf("P1.1: Zag(%d) = %d, not %d", x.u, got, x.n)
		}
	}
}

func TestZigAgainstWords(t *testing.T) {
	for _, n := range numbers() {
		want := new(big.Int).Lsh(big.NewInt(n), 1)
		if n < 0 {
			want.Neg(want).Sub(want, big.NewInt(1))
		}
		got := Zig(n)
		if !want.IsUint64() || got != want.Uint64() {
			t.Errorf("P1.1: Zig(%d) = %d, not %s", n, got, want)
		}
		if back := Zag(got); back != n {
			t.Errorf("P1.1: Zag(Zig(%d)) = %d", n, back)
		}
		u := uint64(n)
		if back := Zig(Zag(u)); back != u {
			t.Errorf("P1.1: Zig(Zag(%d)) = %d", u, back)
		}
	}
}

func TestNarrowExamples(t *testing.T) {
	for _, x := range []struct {
		n     int64
		width int
		want  int64
	}{
		{0, 1, 0}, {1, 1, -1}, {2, 1, 0}, {3, 1, -1}, {-1, 1, -1}, {-2, 1, 0},
		{1, 2, 1}, {2, 2, -2}, {3, 2, -1}, {4, 2, 0},
		{127, 8, 127}, {128, 8, -128}, {255, 8, -1}, {256, 8, 0}, {-128, 8, -128}, {-129, 8, 127},
		{math.MaxUint32, 32, -1}, {math.MaxInt32, 32, math.MaxInt32}, {math.MaxInt32 + 1, 32, math.MinInt32},
		{math.MaxInt64, 63, -1}, {math.MinInt64, 63, 0}, {1 << 62, 63, -1 << 62},
		{math.MaxInt64, 64, math.MaxInt64}, {math.MinInt64, 64, math.MinInt64}, {-1, 64, -1},
	} {
		checkNarrow(t, x.n, x.width, x.want)
	}
}

func TestNarrowAgainstWords(t *testing.T) {
	for width := 1; width <= 64; width++ {
		size := new(big.Int).Lsh(big.NewInt(1), uint(width))
		half := new(big.Int).Rsh(size, 1)
		for _, n := range numbers() {
			want := new(big.Int).Mod(big.NewInt(n), size)
			if want.Cmp(half) >= 0 {
				want.Sub(want, size)
			}
			checkNarrow(t, n, width, want.Int64())
		}
	}
}

func TestNarrowWrongWidths(t *testing.T) {
	for _, width := range wrongWidths() {
		for _, n := range append(numbers(), 0) {
			checkNarrow(t, n, width, 0)
		}
	}
}

// checkNarrow holds Narrow, and Wide and Fit, which hang on it, against the number that is due.
func checkNarrow(t *testing.T, n int64, width int, want int64) {
	t.Helper()
	if got := Narrow(n, width); got != want {
		t.Errorf("P1.1: Narrow(%d, %d) = %d, not %d", n, width, got, want)
	}
	if got := Wide(uint64(n), width); got != want {
		t.Errorf("P1.1: Wide(%d, %d) = %d, not %d", uint64(n), width, got, want)
	}
	if got := Fit(n, width); got != (n == want) {
		t.Errorf("P1.1: Fit(%d, %d) = %v", n, width, got)
	}
}

func TestFitBounds(t *testing.T) {
	for width := 1; width <= 63; width++ {
		top := int64(1) << (width - 1)
		if !Fit(top-1, width) || !Fit(-top, width) {
			t.Errorf("P1.1: width %d: Fit refuses a number within", width)
		}
		if Fit(top, width) || Fit(-top-1, width) {
			t.Errorf("P1.1: width %d: Fit takes a number beyond", width)
		}
	}
	if !Fit(math.MaxInt64, 64) || !Fit(math.MinInt64, 64) {
		t.Errorf("P1.1: width 64: Fit refuses a number")
	}
}

// turned goes bit by bit, so that it shares no shift with what it checks.
func turned(u uint32, by int) uint32 {
	steps := int(new(big.Int).Mod(big.NewInt(int64(by)), big.NewInt(32)).Int64())
	for range steps {
		high := u >= 1<<31
		u *= 2
		if high {
			u++
		}
	}
	return u
}

func TestTurn(t *testing.T) {
	bys := []int{math.MinInt, math.MinInt + 1, math.MinInt + 31, math.MaxInt, math.MaxInt - 31, 1<<32 + 5, -1<<32 - 5}
	for by := -100; by <= 100; by++ {
		bys = append(bys, by)
	}
	for _, u := range []uint32{0, 1, 1 << 31, 0x80000001, 0x12345678, 0xdeadbeef, 0x55555555, math.MaxUint32} {
		for _, by := range bys {
			if got, want := Turn(u, by), turned(u, by); got != want {
				t.Errorf("P1.1: Turn(%#x, %d) = %#x, not %#x", u, by, got, want)
			}
		}
	}
}

func TestTurnExamples(t *testing.T) {
	for _, x := range []struct {
		u    uint32
		by   int
		want uint32
	}{
		{1, 0, 1}, {1, 1, 2}, {1, 31, 1 << 31}, {1, 32, 1}, {1, 33, 2}, {1 << 31, 1, 1},
		{0x12345678, 8, 0x34567812}, {0x12345678, -8, 0x78123456},
		{1, -1, 1 << 31}, {1, -32, 1}, {1, -33, 1 << 31}, {1, math.MinInt, 1}, {1, math.MaxInt, 1 << 31},
	} {
		if got := Turn(x.u, x.by); got != x.want {
			t.Errorf("P1.1: Turn(%#x, %d) = %#x, not %#x", x.u, x.by, got, x.want)
		}
	}
}

func TestBytesExamples(t *testing.T) {
	for _, x := range []struct {
		n int64
		b [8]byte
	}{
		{0, [8]byte{}},
		{1, [8]byte{7: 1}},
		{-1, [8]byte{255, 255, 255, 255, 255, 255, 255, 255}},
		{-2, [8]byte{255, 255, 255, 255, 255, 255, 255, 254}},
		{256, [8]byte{6: 1}},
		{0x0102030405060708, [8]byte{1, 2, 3, 4, 5, 6, 7, 8}},
		{math.MaxInt64, [8]byte{127, 255, 255, 255, 255, 255, 255, 255}},
		{math.MinInt64, [8]byte{128}},
	} {
		if got := Bytes8(x.n); got != x.b {
			t.Errorf("P1.1: Bytes8(%d) = %v, not %v", x.n, got, x.b)
		}
		if got := Of8(x.b); got != x.n {
			t.Errorf("P1.1: Of8(%v) = %d, not %d", x.b, got, x.n)
		}
	}
}

func TestBytesEachPlace(t *testing.T) {
	for i := range 8 {
		for x := range 256 {
			var b [8]byte
			b[i] = byte(x)
			want := int64(uint64(x) << (8 * (7 - i)))
			if got := Of8(b); got != want {
				t.Errorf("P1.1: Of8(%v) = %d, not %d", b, got, want)
			}
			if got := Bytes8(want); got != b {
				t.Errorf("P1.1: Bytes8(%d) = %v, not %v", want, got, b)
			}
		}
	}
	for _, n := range numbers() {
		if got := Of8(Bytes8(n)); got != n {
			t.Errorf("P1.1: Of8(Bytes8(%d)) = %d", n, got)
		}
	}
}

// TestAnyArguments holds P0.1 and P0.5: no call panics, and the same one, after others, answers the same.
func TestAnyArguments(t *testing.T) {
	type answers struct {
		zig          uint64
		zag          int64
		narrow, wide int64
		fit          bool
		turn         uint32
		bytes        [8]byte
	}
	ask := func(n int64, k int) answers {
		return answers{Zig(n), Zag(uint64(n)), Narrow(n, k), Wide(uint64(n), k), Fit(n, k), Turn(uint32(n), k), Bytes8(n)}
	}
	ks := wrongWidths()
	for width := 1; width <= 64; width++ {
		ks = append(ks, width)
	}
	type question struct {
		n int64
		k int
	}
	first := make(map[question]answers)
	for _, k := range ks {
		for _, n := range numbers() {
			first[question{n, k}] = ask(n, k)
		}
	}
	for q, want := range first {
		if got := ask(q.n, q.k); got != want {
			t.Errorf("P0.5: (%d, %d): %v, then %v", q.n, q.k, want, got)
		}
	}
}

// TestBytesAreNew holds P0.3: what one call answered is not another's.
func TestBytesAreNew(t *testing.T) {
	a := Bytes8(0x0102030405060708)
	a[0], a[7] = 99, 99
	if got := Bytes8(0x0102030405060708); got != [8]byte{1, 2, 3, 4, 5, 6, 7, 8} {
		t.Errorf("P0.3: Bytes8 after its answer was written into: %v", got)
	}
	Of8(a)
	if a != [8]byte{99, 2, 3, 4, 5, 6, 7, 99} {
		t.Errorf("P0.3: Of8 changed its argument: %v", a)
	}
}
