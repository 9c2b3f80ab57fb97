package sherd

import (
	"encoding/binary"
	"hash/crc32"
	"math"
	mathbits "math/bits"
	"slices"
	"testing"

	"ostrakon/api"
)

// mirror is the library's table of koop's polynomial, whose bits stand the other way round.
var mirror = crc32.MakeTable(crc32.Koopman)

// sum is that of b behind s, by the library's way round, so that it shares no step with what it checks.
func sum(s uint32, b []byte) uint32 {
	turned := make([]byte, len(b))
	for i, x := range b {
		turned[i] = mathbits.Reverse8(x)
	}
	return mathbits.Reverse32(^crc32.Update(^mathbits.Reverse32(s), mirror, turned))
}

// seal gives p the sum that is due.
func seal(p api.Page) api.Page {
	binary.BigEndian.PutUint32(p[28:], sum(math.MaxUint32, p[:28]))
	return p
}

// laid is the page of s by whole bytes, of what may not be, too, as far as it has room for it.
func laid(s api.Sherd) api.Page {
	p := api.Page{}
	copy(p[:], s.Data[:])
	binary.BigEndian.PutUint64(p[16:], uint64(s.Seq))
	p[16] = byte(s.Role)
	binary.BigEndian.PutUint16(p[17:], uint16(s.Lpn))
	p[24], p[25], p[26], p[27] = byte(s.Block), byte(s.Row), byte(s.Mask), byte(s.Kind)
	return seal(p)
}

// own is a sherd of a logical page.
func own() api.Sherd {
	return api.Sherd{Data: api.Data{7, 15: 9}, Role: api.RData, Lpn: 77, Seq: 1 << 33, Kind: api.KOwn, Block: 5, Row: 6, Mask: 0b110100}
}

// parity is one of pages laid over one another.
func parity() api.Sherd {
	return api.Sherd{Data: api.Data{0, 255, 3}, Role: 99, Lpn: 7, Seq: 8, Kind: api.KParity, Block: 15, Row: 7, Mask: 0b11}
}

// bare is a KOwn of a role that has nothing.
func bare(role int) api.Sherd {
	return api.Sherd{Role: role, Kind: api.KOwn, Block: 1, Row: 2, Mask: 0b111}
}

// changed is s, changed by f.
func changed(s api.Sherd, f func(s *api.Sherd)) api.Sherd {
	f(&s)
	return s
}

// huge are numbers that no field has, some of them right ones when cut to fewer bits.
func huge() []int {
	return []int{math.MinInt, math.MinInt + 1, -1 << 56, -1<<40 + 1, -1 << 32, -1<<32 + 3, -65535, -256, -255, -253, -8, -2, -1, 1 << 40, 1<<40 + 3, 1 << 48, 1 << 56, 1<<56 + 1, 1<<62 + 3, math.MaxInt - 252, math.MaxInt - 1, math.MaxInt}
}

// checkSherd holds May and Put of s, and Get of its page, against whether it may be.
func checkSherd(t *testing.T, s api.Sherd, may bool) {
	t.Helper()
	if got := May(s); got != may {
		t.Errorf("P9.1: May(%v) = %v", s, got)
	}
	want := api.Page{}
	if may {
		want = laid(s)
	}
	p, ok := Put(s)
	if ok != may || p != want {
		t.Errorf("P9.1: Put(%v) = %x, %v, not %x", s, p, ok, want)
	}
	if may {
		checkGet(t, p, s)
	}
}

func checkGet(t *testing.T, p api.Page, want api.Sherd) {
	t.Helper()
	if got, err := Get(p); got != want || err != api.OK {
		t.Errorf("P9.1: Get(%x) = %v, %d, not %v", p, got, err, want)
	}
}

func checkNone(t *testing.T, p api.Page) {
	t.Helper()
	if got, err := Get(p); got != (api.Sherd{}) || err != api.ErrForm {
		t.Errorf("P9.1: Get(%x) = %v, %d", p, got, err)
	}
}

func checkMeta(t *testing.T, role, lpn int, seq int64, want uint64) {
	t.Helper()
	if got := Meta(role, lpn, seq); got != want {
		t.Errorf("P9.1: Meta(%d, %d, %d) = %#x, not %#x", role, lpn, seq, got, want)
	}
}

func checkOf(t *testing.T, m uint64, role, lpn int, seq int64) {
	t.Helper()
	if r, l, s := Of(m); r != role || l != lpn || s != seq {
		t.Errorf("P9.1: Of(%#x) = %d, %d, %d, not %d, %d, %d", m, r, l, s, role, lpn, seq)
	}
}

// TestPages holds pages that are written out.
func TestPages(t *testing.T) {
	for _, c := range []struct {
		s    api.Sherd
		head []byte
	}{
		{bare(api.RPad), []byte{16: 3, 24: 1, 2, 7, 1}},
		{own(), []byte{0: 7, 15: 9, 16: 1, 0, 77, 2, 0, 0, 0, 0, 5, 6, 52, 1}},
		{parity(), []byte{1: 255, 2: 3, 16: 99, 0, 7, 0, 0, 0, 0, 8, 15, 7, 3, 2}},
		{api.Sherd{Data: api.Data{1, 2, 3, 4, 5, 6, 7, 8, 9, 10, 11, 12, 13, 14, 15, 16}, Role: 0xab, Lpn: 0x1234, Seq: 0x56789abcde, Kind: 2, Block: 10, Row: 1, Mask: 0b10000001},
			[]byte{1, 2, 3, 4, 5, 6, 7, 8, 9, 10, 11, 12, 13, 14, 15, 16, 0xab, 0x12, 0x34, 0x56, 0x78, 0x9a, 0xbc, 0xde, 10, 1, 129, 2}},
	} {
		p, ok := Put(c.s)
		want := api.Page{}
		copy(want[:], c.head)
		if want = seal(want); !ok || p != want {
			t.Errorf("P9.1: Put(%v) = %x, %v, not %x", c.s, p, ok, want)
		}
		checkGet(t, want, c.s)
	}
}

func TestKind(t *testing.T) {
	for _, kind := range append(huge(), 0, 1, 2, 3, 4, 255, 256, 257, 258) {
		s := changed(own(), func(s *api.Sherd) { s.Kind = kind })
		checkSherd(t, s, kind == 1 || kind == 2)
	}
}

// TestBounds goes to the edges of each number, of both kinds, and beyond.
func TestBounds(t *testing.T) {
	for _, s := range []api.Sherd{own(), parity()} {
		for n := -3; n < 300; n++ {
			checkSherd(t, changed(s, func(s *api.Sherd) { s.Block = n }), n >= 0 && n < 16)
			checkSherd(t, changed(s, func(s *api.Sherd) { s.Row = n }), n >= 0 && n < 8)
			checkSherd(t, changed(s, func(s *api.Sherd) { s.Lpn = n }), n >= 0)
			checkSherd(t, changed(s, func(s *api.Sherd) { s.Seq = int64(n) }), n >= 0)
		}
		for n := 65530; n < 65536; n++ {
			checkSherd(t, changed(s, func(s *api.Sherd) { s.Lpn = n }), true)
			checkSherd(t, changed(s, func(s *api.Sherd) { s.Lpn = n + 6 }), false)
		}
		for n := int64(1<<40 - 6); n < 1<<40; n++ {
			checkSherd(t, changed(s, func(s *api.Sherd) { s.Seq = n }), true)
			checkSherd(t, changed(s, func(s *api.Sherd) { s.Seq = n + 6 }), false)
		}
		for _, n := range huge() {
			checkSherd(t, changed(s, func(s *api.Sherd) { s.Block = n }), false)
			checkSherd(t, changed(s, func(s *api.Sherd) { s.Row = n }), false)
			checkSherd(t, changed(s, func(s *api.Sherd) { s.Mask = n }), false)
			checkSherd(t, changed(s, func(s *api.Sherd) { s.Lpn = n }), false)
			checkSherd(t, changed(s, func(s *api.Sherd) { s.Seq = int64(n) }), false)
			checkSherd(t, changed(s, func(s *api.Sherd) { s.Role = n }), false)
		}
	}
}

func TestMasks(t *testing.T) {
	for _, s := range []api.Sherd{own(), parity()} {
		for m := -300; m < 600; m++ {
			may := m >= 0 && m < 256 && mathbits.OnesCount(uint(m)) > 1
			checkSherd(t, changed(s, func(s *api.Sherd) { s.Mask = m }), may)
		}
	}
}

// TestRoles asks for each role with all that may go with it, or not.
func TestRoles(t *testing.T) {
	for role := -2; role < 300; role++ {
		for _, data := range []api.Data{{}, {1}, {15: 128}, {7: 255}} {
			for _, lpn := range []int{0, 1, 65535} {
				for _, seq := range []int64{0, 1, 1<<40 - 1} {
					s := bare(role)
					s.Data, s.Lpn, s.Seq = data, lpn, seq
					isBare := data == api.Data{}
					may := false
					switch role {
					case 1:
						may = true
					case 2, 4:
						may = isBare
					case 3:
						may = isBare && lpn == 0 && seq == 0
					}
					checkSherd(t, s, may)
					s.Kind = api.KParity
					checkSherd(t, s, role >= 0 && role < 256)
				}
			}
		}
	}
}

// TestEachByteOfData asks that no byte be overlooked where a role has none.
func TestEachByteOfData(t *testing.T) {
	for k := range api.DataLen {
		for _, x := range []byte{1, 16, 128, 255} {
			for _, role := range []int{api.RTrim, api.RPad, api.RLost} {
				s := bare(role)
				s.Data[k] = x
				checkSherd(t, s, false)
			}
			s := bare(api.RData)
			s.Data[k] = x
			checkSherd(t, s, true)
		}
	}
}

func TestZero(t *testing.T) {
	checkSherd(t, api.Sherd{}, false)
	checkNone(t, api.Page{})
	checkNone(t, seal(api.Page{}))
}

// TestSealedPages: a sum that is right makes no sherd of what may not be one.
func TestSealedPages(t *testing.T) {
	for _, s := range []api.Sherd{own(), parity()} {
		for n := range 256 {
			for at, may := range map[int]bool{
				24: n < 16,
				25: n < 8,
				26: mathbits.OnesCount(uint(n)) > 1,
				27: n == 1 && s.Role < 5 || n == 2,
				16: n == 1 || s.Kind == 2,
			} {
				p := laid(s)
				p[at] = byte(n)
				p = seal(p)
				if !may {
					checkNone(t, p)
				} else if got, err := Get(p); err != api.OK || laid(got) != p {
					t.Errorf("P9.1: Get(%x) = %v, %d", p, got, err)
				}
			}
		}
	}
	for _, role := range []int{api.RTrim, api.RPad, api.RLost} {
		checkGet(t, laid(bare(role)), bare(role))
		for k := range 24 {
			if k == 16 || role != api.RPad && k > 16 {
				continue
			}
			p := laid(bare(role))
			p[k] = 1
			checkNone(t, seal(p))
		}
	}
}

// sherds are some of each kind and role.
func sherds() []api.Sherd {
	return []api.Sherd{own(), parity(), bare(api.RData), bare(api.RTrim), bare(api.RPad), bare(api.RLost)}
}

// TestTurnedByte turns each byte of a page in every way.
func TestTurnedByte(t *testing.T) {
	for _, s := range sherds() {
		p, _ := Put(s)
		checkGet(t, p, s)
		for k := range p {
			for x := 1; x < 256; x++ {
				q := p
				q[k] ^= byte(x)
				checkNone(t, q)
			}
		}
	}
}

// TestWrongSums gives pages sums that are near the right one.
func TestWrongSums(t *testing.T) {
	for _, s := range sherds() {
		p := laid(s)
		right := binary.BigEndian.Uint32(p[28:])
		for _, wrong := range []uint32{0, math.MaxUint32, ^right, right + 1, mathbits.ReverseBytes32(right), mathbits.Reverse32(right), sum(0, p[:28]), sum(math.MaxUint32, p[:27]), sum(math.MaxUint32, p[:29]), sum(math.MaxUint32, p[1:28]), sum(math.MaxUint32, p[16:28]), crc32.ChecksumIEEE(p[:28])} {
			q := p
			binary.BigEndian.PutUint32(q[28:], wrong)
			checkNone(t, q)
		}
		checkGet(t, p, s)
	}
}

// TestCutPages: of a page whose program was cut there is nothing, but it was done whole.
func TestCutPages(t *testing.T) {
	for _, s := range sherds() {
		p, _ := Put(s)
		for keep := range p {
			q := p
			for k := keep; k < len(q); k++ {
				q[k] = 255
			}
			if q == p {
				t.Fatalf("the pages are badly chosen: %x", p)
			}
			checkNone(t, q)
			if got := Blank(q); got != (keep == 0) {
				t.Errorf("P9.1: Blank(%x) = %v", q, got)
			}
		}
	}
}

func TestBlank(t *testing.T) {
	blank := api.Page{}
	for k := range blank {
		blank[k] = 255
	}
	if !Blank(blank) {
		t.Error("P9.1: a page of 255 is not blank")
	}
	checkNone(t, blank)
	checkNone(t, seal(blank))
	for k := range blank {
		for x := range 255 {
			p := blank
			p[k] = byte(x)
			if Blank(p) {
				t.Errorf("P9.1: %x is blank", p)
			}
			p = api.Page{}
			p[k] = byte(x + 1)
			if Blank(p) {
				t.Errorf("P9.1: %x is blank", p)
			}
		}
	}
	if Blank(api.Page{}) {
		t.Error("P9.1: a page of 0 is blank")
	}
	for _, s := range sherds() {
		if Blank(laid(s)) {
			t.Errorf("P9.1: the page of %v is blank", s)
		}
	}
}

func TestMeta(t *testing.T) {
	checkMeta(t, 0, 0, 0, 0)
	checkMeta(t, 1, 0, 0, 0x0100000000000000)
	checkMeta(t, 0, 1, 0, 0x0000010000000000)
	checkMeta(t, 0, 0, 1, 1)
	checkMeta(t, 0xab, 0x1234, 0x56789abcde, 0xab123456789abcde)
	checkMeta(t, 255, 0, 0, 0xff00000000000000)
	checkMeta(t, 0, 65535, 0, 0x00ffff0000000000)
	checkMeta(t, 0, 0, 1<<40-1, 0x000000ffffffffff)
	checkMeta(t, 255, 65535, 1<<40-1, math.MaxUint64)
}

// TestMetaOfHigherBits asks that no number come into the next one's bits.
func TestMetaOfHigherBits(t *testing.T) {
	checkMeta(t, 256, 65536, 1<<40, 0)
	checkMeta(t, 256, 0, 0, 0)
	checkMeta(t, 0, 65536, 0, 0)
	checkMeta(t, 0, 0, 1<<40, 0)
	checkMeta(t, -1, 0, 0, 0xff00000000000000)
	checkMeta(t, 0, -1, 0, 0x00ffff0000000000)
	checkMeta(t, 0, 0, -1, 0x000000ffffffffff)
	checkMeta(t, -255, -65535, -1<<40+1, 0x0100010000000001)
	checkMeta(t, math.MinInt, math.MinInt, math.MinInt64, 0)
	checkMeta(t, math.MaxInt, math.MaxInt, math.MaxInt64, math.MaxUint64)
	checkMeta(t, 0x1f2, 0x1abcd, 7<<40|9, 0xf2abcd0000000009)
	for k := range 64 {
		role, lpn, seq := uint64(0), uint64(0), uint64(0)
		if k < 8 {
			role = 1 << (56 + k)
		}
		if k < 16 {
			lpn = 1 << (40 + k)
		}
		if k < 40 {
			seq = 1 << k
		}
		checkMeta(t, 1<<k, 0, 0, role)
		checkMeta(t, 0, 1<<k, 0, lpn)
		checkMeta(t, 0, 0, 1<<k, seq)
	}
}

func TestOf(t *testing.T) {
	checkOf(t, 0, 0, 0, 0)
	checkOf(t, math.MaxUint64, 255, 65535, 1<<40-1)
	checkOf(t, 0xab123456789abcde, 0xab, 0x1234, 0x56789abcde)
	for k := range 64 {
		switch {
		case k < 40:
			checkOf(t, 1<<k, 0, 0, 1<<k)
		case k < 56:
			checkOf(t, 1<<k, 0, 1<<(k-40), 0)
		default:
			checkOf(t, 1<<k, 1<<(k-56), 0, 0)
		}
	}
}

// lot draws numbers, the same ones every time.
type lot uint64

func (l *lot) draw() uint64 {
	*l = *l*6364136223846793005 + 1442695040888963407
	u := uint64(*l)
	return u ^ u>>29
}

func (l *lot) below(n uint64) int {
	return int(l.draw() >> 20 % n)
}

// sherd draws one that may be.
func (l *lot) sherd() api.Sherd {
	s := api.Sherd{Kind: api.KOwn, Role: 1 + l.below(4), Block: l.below(16), Row: l.below(8)}
	for mathbits.OnesCount(uint(s.Mask)) < 2 {
		s.Mask = l.below(256)
	}
	if l.below(3) == 0 {
		s.Kind, s.Role = api.KParity, l.below(256)
	}
	isOwn := s.Kind == api.KOwn
	if !isOwn || s.Role != api.RPad {
		s.Lpn, s.Seq = l.below(1<<16), int64(l.below(1<<40))
	}
	if !isOwn || s.Role == api.RData {
		for k := range s.Data {
			s.Data[k] = byte(l.below(256))
		}
	}
	return s
}

func TestManySherds(t *testing.T) {
	l := lot(1)
	for range 20000 {
		s := l.sherd()
		checkSherd(t, s, true)
		m := l.draw()
		role, lpn, seq := Of(m)
		checkMeta(t, role, lpn, seq, m)
		if Meta(s.Role, s.Lpn, s.Seq)^m != Meta(s.Role^role, s.Lpn^lpn, s.Seq^seq) {
			t.Errorf("P9.1: Meta of %v laid over %#x", s, m)
		}
		p := api.Page{}
		for k := range p {
			p[k] = byte(l.below(256))
		}
		checkNone(t, p)
		if Blank(p) {
			t.Errorf("P9.1: %x is blank", p)
		}
	}
}

// TestAnyArguments holds P0.1 and P0.5: no call panics, and the same one, after others, answers the same.
func TestAnyArguments(t *testing.T) {
	type question struct {
		s api.Sherd
		p api.Page
	}
	type answers struct {
		may, ok, blank bool
		p              api.Page
		s              api.Sherd
		err            api.Errno
		m              uint64
		role, lpn      int
		seq            int64
	}
	ask := func(q question) answers {
		a := answers{may: May(q.s), blank: Blank(q.p), m: Meta(q.s.Role, q.s.Lpn, q.s.Seq)}
		a.p, a.ok = Put(q.s)
		a.s, a.err = Get(q.p)
		a.role, a.lpn, a.seq = Of(binary.LittleEndian.Uint64(q.p[3:]))
		return a
	}
	l := lot(2)
	numbers := slices.Concat(huge(), []int{0, 1, 2, 3, 7, 8, 15, 255, 65535, 65536})
	draw := func() int { return numbers[l.below(uint64(len(numbers)))] }
	list := []question{}
	for range 3000 {
		s := l.sherd()
		list = append(list, question{s, laid(s)})
		s = api.Sherd{Data: s.Data, Role: draw(), Lpn: draw(), Seq: int64(draw()), Kind: draw(), Block: draw(), Row: draw(), Mask: draw()}
		list = append(list, question{s, laid(s)})
	}
	first := []answers{}
	for _, q := range list {
		first = append(first, ask(q))
	}
	for k, q := range slices.Backward(list) {
		if got := ask(q); got != first[k] {
			t.Errorf("P0.5: %v: %v, then %v", q, first[k], got)
		}
	}
}
