package bits

import (
	"bytes"
	"math"
	"math/big"
	"strconv"
	"strings"
	"testing"
)

// wrongWidths are none of 1 to 64, some of them one only when cut to fewer bits.
func wrongWidths() []int {
	return []int{0, -1, -8, -64, 65, 66, 72, 128, 129, 1<<8 + 8, 1<<32 + 8, -1<<32 + 8, math.MinInt + 8, math.MinInt, math.MaxInt}
}

// lot draws numbers, the same ones every time.
type lot uint64

func (l *lot) draw() uint64 {
	*l = *l*6364136223846793005 + 1442695040888963407
	u := uint64(*l)
	return u ^ u>>29
}

// field is one of width bits, cut to them.
func (l *lot) field(width int) uint64 {
	return l.draw() & low(width)
}

// low is the greatest number of width bits.
func low(width int) uint64 {
	one := big.NewInt(1)
	return new(big.Int).Sub(new(big.Int).Lsh(one, uint(width)), one).Uint64()
}

// digits writes u with width digits of 0 and 1, so that it shares no shift with what it checks.
func digits(u uint64, width int) string {
	s := strconv.FormatUint(u, 2)
	if u == 0 {
		s = ""
	}
	return strings.Repeat("0", width-len(s)) + s
}

// packed is the bytes of a text of digits, noughts behind the last.
func packed(s string) []byte {
	s += strings.Repeat("0", (8-len(s)%8)%8)
	b := make([]byte, 0, len(s)/8)
	for ; s != ""; s = s[8:] {
		u, _ := strconv.ParseUint(s[:8], 2, 8)
		b = append(b, byte(u))
	}
	return b
}

// spread is the digits of bytes.
func spread(b []byte) string {
	var s strings.Builder
	for _, x := range b {
		s.WriteString(digits(uint64(x), 8))
	}
	return s.String()
}

// checkOut holds an Out against the digits that were put.
func checkOut(t *testing.T, o *Out, want string) {
	t.Helper()
	if got := o.Len(); got != len(want) {
		t.Fatalf("P2.1: Len() = %d, not %d", got, len(want))
	}
	if got := o.Bytes(); !bytes.Equal(got, packed(want)) {
		t.Fatalf("P2.1: Bytes() = %x, not %x", got, packed(want))
	}
}

// filled is an Out of n bits, all of them 1, and their digits.
func filled(t *testing.T, n int) (*Out, string) {
	t.Helper()
	o := &Out{}
	for left := n; left > 0; {
		width := min(left, 64)
		if !o.Put(low(width), width) {
			t.Fatalf("P2.1: of %d bits, %d left, Put of %d is refused", n, left, width)
		}
		left -= width
	}
	return o, strings.Repeat("1", n)
}

func TestPutExamples(t *testing.T) {
	o := &Out{}
	checkOut(t, o, "")
	for _, x := range []struct {
		u     uint64
		width int
		bytes []byte
		len   int
	}{
		{1, 1, []byte{0x80}, 1},
		{0, 1, []byte{0x80}, 2},
		{5, 3, []byte{0xa8}, 5},
		{3, 3, []byte{0xab}, 8},
		{0x123, 12, []byte{0xab, 0x12, 0x30}, 20},
		{0xf, 4, []byte{0xab, 0x12, 0x3f}, 24},
		{1, 9, []byte{0xab, 0x12, 0x3f, 0x00, 0x80}, 33},
	} {
		if !o.Put(x.u, x.width) {
			t.Errorf("P2.1: Put(%#x, %d) is refused", x.u, x.width)
		}
		if got := o.Bytes(); !bytes.Equal(got, x.bytes) || o.Len() != x.len {
			t.Errorf("P2.1: behind Put(%#x, %d): %x, %d bits, not %x, %d", x.u, x.width, got, o.Len(), x.bytes, x.len)
		}
	}
}

// TestPutEachWidthEverywhere puts a field of each width at each place of a byte, with ones ahead of it and behind it.
func TestPutEachWidthEverywhere(t *testing.T) {
	l := lot(1)
	for ahead := range 17 {
		for width := 1; width <= 64; width++ {
			for _, u := range []uint64{0, 1, low(width), low(width) / 2, low(width) - low(width)/2, l.field(width)} {
				o, want := filled(t, ahead)
				if !o.Put(u, width) {
					t.Fatalf("P2.1: Put(%#x, %d) is refused", u, width)
				}
				want += digits(u, width)
				checkOut(t, o, want)
				if !o.Put(1, 1) {
					t.Fatalf("P2.1: behind Put(%#x, %d) is no room", u, width)
				}
				checkOut(t, o, want+"1")
				checkGet(t, Read(o.Bytes()), ahead, width, u)
			}
		}
	}
}

// checkGet skips some bits of i, and holds the field behind them against what is due.
func checkGet(t *testing.T, i *In, ahead, width int, want uint64) {
	t.Helper()
	for range ahead {
		i.Get(1)
	}
	left := i.Left()
	if u, ok := i.Get(width); !ok || u != want {
		t.Fatalf("P2.1: Get(%d) behind %d bits = %#x, %v, not %#x", width, ahead, u, ok, want)
	}
	if i.Left() != left-width {
		t.Fatalf("P2.1: Get(%d) of %d left %d", width, left, i.Left())
	}
}

func TestPutRefusesWidths(t *testing.T) {
	for _, n := range []int{0, 3, 8, 4095, 4096} {
		o, want := filled(t, n)
		for _, width := range wrongWidths() {
			for _, u := range []uint64{0, 1, math.MaxUint64} {
				if o.Put(u, width) {
					t.Errorf("P2.1: Put(%#x, %d) is taken", u, width)
				}
				checkOut(t, o, want)
			}
		}
	}
}

func TestPutRefusesHigherBits(t *testing.T) {
	for width := 1; width < 64; width++ {
		o, want := filled(t, 5)
		for k := width; k < 64; k++ {
			for _, u := range []uint64{1 << k, 1<<k + 1, 1<<k | low(width), math.MaxUint64} {
				if o.Put(u, width) {
					t.Errorf("P2.1: Put(%#x, %d) is taken", u, width)
				}
			}
		}
		checkOut(t, o, want)
		if u := low(width); !o.Put(u, width) {
			t.Errorf("P2.1: Put(%#x, %d) is refused", u, width)
		}
		checkOut(t, o, want+digits(low(width), width))
	}
	o := &Out{}
	if !o.Put(math.MaxUint64, 64) {
		t.Errorf("P2.1: the greatest number is refused")
	}
	checkOut(t, o, digits(math.MaxUint64, 64))
}

// TestPutRefusesMore comes to the bound of 4,096 bits by each width.
func TestPutRefusesMore(t *testing.T) {
	for width := 1; width <= 64; width++ {
		o, want := filled(t, 4096-width+1)
		for _, u := range []uint64{0, low(width)} {
			if o.Put(u, width) {
				t.Errorf("P2.1: %d bits beyond %d are taken", width, len(want))
			}
		}
		checkOut(t, o, want)
		o, want = filled(t, 4096-width)
		if !o.Put(0, width) {
			t.Errorf("P2.1: %d bits behind %d are refused", width, len(want))
		}
		want += strings.Repeat("0", width)
		checkOut(t, o, want)
		for w := 1; w <= 64; w++ {
			if o.Put(0, w) || o.Put(1, w) {
				t.Errorf("P2.1: %d bits behind 4,096 are taken", w)
			}
		}
		checkOut(t, o, want)
	}
}

// TestPutGoesOnBehindRefusals: a refused field leaves no bits that a later one is laid over.
func TestPutGoesOnBehindRefusals(t *testing.T) {
	l := lot(2)
	o := &Out{}
	want := ""
	for len(want) < 4096 {
		width := min(1+int(l.draw()%64), 4096-len(want))
		u := l.field(width)
		if o.Put(math.MaxUint64, 65) || o.Put(math.MaxUint64, 63) || o.Put(math.MaxUint64, -1) || (len(want)+64 > 4096 && o.Put(math.MaxUint64, 64)) {
			t.Fatalf("P2.1: a wrong field is taken")
		}
		if !o.Put(u, width) {
			t.Fatalf("P2.1: Put(%#x, %d) behind %d is refused", u, width, len(want))
		}
		want += digits(u, width)
		checkOut(t, o, want)
	}
}

func TestGetExamples(t *testing.T) {
	i := Read([]byte{0xab, 0x12, 0x3f, 0x00, 0x80})
	for _, x := range []struct {
		width int
		u     uint64
		left  int
	}{{1, 1, 39}, {1, 0, 38}, {3, 5, 35}, {3, 3, 32}, {12, 0x123, 20}, {4, 0xf, 16}, {9, 1, 7}, {7, 0, 0}} {
		if u, ok := i.Get(x.width); !ok || u != x.u || i.Left() != x.left {
			t.Errorf("P2.1: Get(%d) = %#x, %v, %d left, not %#x, %d", x.width, u, ok, i.Left(), x.u, x.left)
		}
	}
}

func TestGetAgainstDigits(t *testing.T) {
	l := lot(3)
	b := make([]byte, 2000)
	for k := range b {
		b[k] = byte(l.draw())
	}
	text := spread(b)
	i := Read(b)
	for text != "" {
		if i.Left() != len(text) {
			t.Fatalf("P2.1: %d bits are left, not %d", i.Left(), len(text))
		}
		width := min(1+int(l.draw()%64), len(text))
		want, _ := strconv.ParseUint(text[:width], 2, 64)
		if u, ok := i.Get(width); !ok || u != want {
			t.Fatalf("P2.1: Get(%d), %d left: %#x, %v, not %#x", width, len(text), u, ok, want)
		}
		text = text[width:]
	}
	if i.Left() != 0 {
		t.Errorf("P2.1: at the end %d bits are left", i.Left())
	}
}

func TestGetRefuses(t *testing.T) {
	b := []byte{0xff, 0xff, 0xff, 0xff, 0xff, 0xff, 0xff, 0xff, 0xff}
	for gone := 0; gone <= 72; gone++ {
		i := Read(b)
		for range gone {
			i.Get(1)
		}
		left := 72 - gone
		widths := wrongWidths()
		for width := left + 1; width <= 64; width++ {
			widths = append(widths, width)
		}
		for _, width := range widths {
			if u, ok := i.Get(width); ok || u != 0 || i.Left() != left {
				t.Errorf("P2.1: Get(%d), %d left: %#x, %v, then %d left", width, left, u, ok, i.Left())
			}
		}
		if left == 0 {
			continue
		}
		width := min(left, 64)
		if u, ok := i.Get(width); !ok || u != low(width) || i.Left() != left-width {
			t.Errorf("P2.1: behind refusals Get(%d), %d left: %#x, %v", width, left, u, ok)
		}
	}
}

// TestReadIsNotBounded: the 4,096 bits bound what is put, not what is read.
func TestReadIsNotBounded(t *testing.T) {
	for _, n := range []int{511, 512, 513, 100000} {
		b := make([]byte, n)
		b[n-1] = 0x5a
		i := Read(b)
		for range n - 1 {
			if u, ok := i.Get(8); !ok || u != 0 {
				t.Fatalf("P2.1: of %d bytes: %d, %v, %d left", n, u, ok, i.Left())
			}
		}
		if u, ok := i.Get(8); !ok || u != 0x5a || i.Left() != 0 {
			t.Errorf("P2.1: the last of %d bytes: %d, %v, %d left", n, u, ok, i.Left())
		}
	}
}

func TestWayBack(t *testing.T) {
	l := lot(4)
	type field struct {
		u     uint64
		width int
	}
	for range 200 {
		var fields []field
		o := &Out{}
		for {
			width := 1 + int(l.draw()%64)
			f := field{l.field(width), width}
			if !o.Put(f.u, f.width) {
				break
			}
			fields = append(fields, f)
		}
		i := Read(o.Bytes())
		for k, f := range fields {
			if u, ok := i.Get(f.width); !ok || u != f.u {
				t.Fatalf("P2.1: field %d of %d bits: %#x, %v, not %#x", k, f.width, u, ok, f.u)
			}
		}
		if want := (8 - o.Len()%8) % 8; i.Left() != want {
			t.Errorf("P2.1: behind %d bits %d are left, not %d", o.Len(), i.Left(), want)
		}
		if i.Left() > 0 {
			if u, ok := i.Get(i.Left()); !ok || u != 0 {
				t.Errorf("P2.1: behind the last: %#x, %v", u, ok)
			}
		}
	}
}

func TestNilAndEmpty(t *testing.T) {
	var o *Out
	var i *In
	for _, width := range append(wrongWidths(), 1, 8, 64) {
		if o.Put(0, width) || o.Put(1, width) {
			t.Errorf("P2.1: a nil *Out takes %d bits", width)
		}
		for _, in := range []*In{i, {}, Read(nil), Read([]byte{}), Read(make([]byte, 0, 9))} {
			if u, ok := in.Get(width); ok || u != 0 || in.Left() != 0 {
				t.Errorf("P2.1: an empty *In: Get(%d) = %d, %v, %d left", width, u, ok, in.Left())
			}
		}
	}
	if o.Len() != 0 || o.Bytes() != nil {
		t.Errorf("P2.1: a nil *Out: %d, %v", o.Len(), o.Bytes())
	}
}

// TestBytesAreNew holds P0.3: what Bytes answered is not the Out's, nor another answer's, its spare room neither.
func TestBytesAreNew(t *testing.T) {
	for _, n := range []int{0, 1, 8, 9, 300, 4095, 4096} {
		o, want := filled(t, n)
		a, b := o.Bytes(), o.Bytes()
		a = a[:cap(a)]
		for k := range a {
			a[k] = 0x55
		}
		if !bytes.Equal(b, packed(want)) {
			t.Errorf("P0.3: %d bits: one answer shares bytes with another: %x", n, b)
		}
		checkOut(t, o, want)
		if n < 4096 {
			o.Put(0, 1)
			checkOut(t, o, want+"0")
		}
		if !bytes.Equal(b, packed(want)) {
			t.Errorf("P0.3: %d bits: a later Put changed an answer: %x", n, b)
		}
	}
}

// TestReadKeepsNothing holds P0.3: a list that is read is neither changed nor kept, its spare room neither.
func TestReadKeepsNothing(t *testing.T) {
	whole := []byte{1, 2, 3, 4, 5, 6, 7, 8}
	i := Read(whole[2:4])
	for k := range whole {
		whole[k] = 0xff
	}
	if u, ok := i.Get(16); !ok || u != 0x0304 {
		t.Errorf("P0.3: the In keeps the list: %#x, %v", u, ok)
	}
	if u, ok := i.Get(1); ok || u != 0 {
		t.Errorf("P0.3: the In reads spare room: %#x, %v", u, ok)
	}
	whole = []byte{1, 2, 3, 4, 5, 6, 7, 8}
	i = Read(whole[:4])
	for i.Left() > 0 {
		i.Get(1)
	}
	if !bytes.Equal(whole, []byte{1, 2, 3, 4, 5, 6, 7, 8}) {
		t.Errorf("P0.3: Read changed its argument: %x", whole)
	}
}

// TestObjectsAreApart holds P0.5: no object hangs on another one, a copy of it neither.
func TestObjectsAreApart(t *testing.T) {
	a, b := &Out{}, &Out{}
	a.Put(5, 3)
	c := *a
	b.Put(0xff, 8)
	a.Put(0, 6)
	c.Put(0x3f, 6)
	checkOut(t, a, "101000000")
	checkOut(t, b, "11111111")
	checkOut(t, &c, "101111111")
	i, j := Read([]byte{0xa5}), Read([]byte{0xa5})
	i.Get(4)
	k := *i
	if u, ok := i.Get(4); !ok || u != 5 {
		t.Errorf("P0.5: one In: %d, %v", u, ok)
	}
	if u, ok := j.Get(8); !ok || u != 0xa5 {
		t.Errorf("P0.5: another In: %#x, %v", u, ok)
	}
	if u, ok := k.Get(4); !ok || u != 5 || k.Left() != 0 {
		t.Errorf("P0.5: a copied In: %d, %v", u, ok)
	}
}
