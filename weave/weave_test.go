package weave

import (
	"math"
	mathbits "math/bits"
	"slices"
	"testing"

	"ostrakon/api"
)

// meta is a sherd's by whole bytes, so that it shares no step with what it checks.
func meta(s api.Sherd) uint64 {
	m := uint64(byte(s.Role))
	m = m*65536 + uint64(uint16(s.Lpn))
	return m*1099511627776 + uint64(s.Seq)&0xffffffffff
}

// data is an entry of a logical page that has something.
func data(lpn int, seq int64, first, last byte) api.Entry {
	return api.Entry{Lpn: lpn, Seq: seq, Role: api.RData, Data: api.Data{first, 15: last}}
}

func trim(lpn int, seq int64) api.Entry { return api.Entry{Lpn: lpn, Seq: seq, Role: api.RTrim} }
func lost(lpn int, seq int64) api.Entry { return api.Entry{Lpn: lpn, Seq: seq, Role: api.RLost} }
func pad() api.Entry                    { return api.Entry{Role: api.RPad} }

// sherdOf is an entry as a sherd of that kind and row, whether it may be or not.
func sherdOf(kind, block, row, mask int, e api.Entry) api.Sherd {
	return api.Sherd{Data: e.Data, Role: e.Role, Lpn: e.Lpn, Seq: e.Seq, Kind: kind, Block: block, Row: row, Mask: mask}
}

// owns are the sherds of the entries of a row.
func owns(block, row, mask int, l []api.Entry) []api.Sherd {
	s := []api.Sherd{}
	for _, e := range l {
		s = append(s, sherdOf(api.KOwn, block, row, mask, e))
	}
	return s
}

// parityOf is the parity of the entries of a row, each of its fields laid over the others' by itself.
func parityOf(block, row, mask int, l []api.Entry) api.Sherd {
	s := api.Sherd{Kind: api.KParity, Block: block, Row: row, Mask: mask}
	for _, e := range l {
		for k := range s.Data {
			s.Data[k] ^= e.Data[k]
		}
		s.Role ^= e.Role
		s.Lpn ^= e.Lpn
		s.Seq ^= e.Seq
	}
	return s
}

// masks are all that a row can lie over.
func masks() []int {
	l := []int{}
	for mask := range 256 {
		if mathbits.OnesCount(uint(mask)) >= 2 {
			l = append(l, mask)
		}
	}
	return l
}

// noMasks are none that a row can lie over, some of them one only when cut to fewer bits.
func noMasks() []int {
	return []int{0, 1, 2, 4, 8, 16, 32, 64, 128, 256, 257, 259, 511, 1<<32 + 7, -1<<32 + 7, -1, -2, -249, -256, math.MinInt, math.MinInt + 7, math.MaxInt, math.MaxInt - 248}
}

// huge are numbers that no field has, some of them right ones when cut to fewer bits.
func huge() []int {
	return []int{math.MinInt, math.MinInt + 1, -1 << 56, -1<<40 + 1, -1<<32 + 3, -65535, -255, -1, 1 << 40, 1<<40 + 3, 1 << 48, 1<<56 + 1, 1<<62 + 3, math.MaxInt - 252, math.MaxInt}
}

// notEntries are entries of which no page can be.
func notEntries() []api.Entry {
	l := []api.Entry{
		{},
		{Role: api.RPad, Lpn: 1},
		{Role: api.RPad, Seq: 1},
		{Role: api.RPad, Data: api.Data{15: 1}},
		{Role: api.RTrim, Lpn: 1, Seq: 2, Data: api.Data{1}},
		{Role: api.RLost, Lpn: 1, Seq: 2, Data: api.Data{8: 1}},
		{Role: 5, Lpn: 1, Seq: 2},
		data(1<<16, 1, 1, 1),
		data(1, 1<<40, 1, 1),
		data(-1, 1, 1, 1),
		data(1, -1, 1, 1),
	}
	for _, n := range huge() {
		l = append(l, api.Entry{Role: n}, trim(n, 1), lost(1, int64(n)))
	}
	return l
}

// changed is s, changed by f.
func changed(s api.Sherd, f func(s *api.Sherd)) api.Sherd {
	f(&s)
	return s
}

func checkOver(t *testing.T, l []api.Sherd, d api.Data, m uint64) {
	t.Helper()
	if gotD, gotM := Over(l...); gotD != d || gotM != m {
		t.Errorf("P10.1: Over(%v) = %v, %#x, not %v, %#x", l, gotD, gotM, d, m)
	}
}

func checkOwn(t *testing.T, block, row, mask int, e api.Entry, may bool) {
	t.Helper()
	want := api.Sherd{}
	if may {
		want = sherdOf(api.KOwn, block, row, mask, e)
	}
	if got, ok := Own(block, row, mask, e); got != want || ok != may {
		t.Errorf("P10.1: Own(%d, %d, %d, %v) = %v, %v, not %v", block, row, mask, e, got, ok, want)
	}
}

func checkParity(t *testing.T, block, row, mask int, l []api.Entry, may bool) {
	t.Helper()
	want := api.Sherd{}
	if may {
		want = parityOf(block, row, mask, l)
	}
	if got, ok := Parity(block, row, mask, l); got != want || ok != may {
		t.Errorf("P10.1: Parity(%d, %d, %d, %v) = %v, %v, not %v", block, row, mask, l, got, ok, want)
	}
}

func checkBack(t *testing.T, parity api.Sherd, others []api.Sherd, want api.Entry) {
	t.Helper()
	if got, ok := Back(parity, others); got != want || !ok {
		t.Errorf("P10.1: Back(%v, %v) = %v, %v, not %v", parity, others, got, ok, want)
	}
}

func checkNoBack(t *testing.T, parity api.Sherd, others []api.Sherd) {
	t.Helper()
	if got, ok := Back(parity, others); got != (api.Entry{}) || ok {
		t.Errorf("P10.1: Back(%v, %v) = %v, %v", parity, others, got, ok)
	}
}

// checkRow holds all that weave tells of a row that may be.
func checkRow(t *testing.T, block, row, mask int, l []api.Entry) {
	t.Helper()
	checkParity(t, block, row, mask, l, true)
	for _, e := range l {
		checkOwn(t, block, row, mask, e, true)
	}
	parity, all := parityOf(block, row, mask, l), owns(block, row, mask, l)
	checkOver(t, append(slices.Clone(all), parity), api.Data{}, 0)
	checkOver(t, all, parity.Data, meta(parity))
	for i, e := range l {
		checkBack(t, parity, slices.Concat(all[:i], all[i+1:]), e)
	}
}

func TestOver(t *testing.T) {
	checkOver(t, nil, api.Data{}, 0)
	checkOver(t, []api.Sherd{}, api.Data{}, 0)
	one := api.Sherd{Data: api.Data{1, 2, 3, 4, 5, 6, 7, 8, 9, 10, 11, 12, 13, 14, 15, 16}, Role: 0xab, Lpn: 0x1234, Seq: 0x56789abcde}
	checkOver(t, []api.Sherd{one}, one.Data, 0xab123456789abcde)
	checkOver(t, []api.Sherd{one, one}, api.Data{}, 0)
	checkOver(t, []api.Sherd{one, one, one}, one.Data, 0xab123456789abcde)
	checkOver(t, []api.Sherd{
		{Data: api.Data{0b1100, 15: 0b0110}, Role: 1, Lpn: 5, Seq: 9},
		{Data: api.Data{0b1010, 15: 0b0011}, Role: 3, Lpn: 6, Seq: 1},
	}, api.Data{0b0110, 15: 0b0101}, 0x0200030000000008)
	if d, m := Over(); d != (api.Data{}) || m != 0 {
		t.Errorf("P10.1: Over() = %v, %#x", d, m)
	}
}

// TestOverOfWhatMayNotBe asks for the metas of all sherds, whatever stands beside them.
func TestOverOfWhatMayNotBe(t *testing.T) {
	for _, n := range huge() {
		for _, s := range []api.Sherd{
			{Role: n}, {Lpn: n}, {Seq: int64(n)},
			{Role: n, Lpn: n, Seq: int64(n), Kind: n, Block: n, Row: n, Mask: n, Data: api.Data{7}},
		} {
			checkOver(t, []api.Sherd{s}, s.Data, meta(s))
			checkOver(t, []api.Sherd{s, {Role: 1, Data: api.Data{2}}}, api.Data{s.Data[0] ^ 2}, meta(s)^1<<56)
		}
	}
	for _, s := range []api.Sherd{{Kind: 1}, {Kind: 2}, {Block: 255}, {Row: 255}, {Mask: 255}} {
		checkOver(t, []api.Sherd{s}, api.Data{}, 0)
	}
}

func TestOwn(t *testing.T) {
	checkOwn(t, 5, 6, 0b110100, data(77, 1<<33, 7, 9), true)
	checkOwn(t, 0, 0, 3, data(0, 0, 0, 0), true)
	checkOwn(t, 15, 7, 255, data(1<<16-1, 1<<40-1, 255, 255), true)
	checkOwn(t, 15, 7, 255, trim(1<<16-1, 1<<40-1), true)
	checkOwn(t, 1, 2, 3, lost(9, 5), true)
	checkOwn(t, 1, 2, 3, pad(), true)
	for _, e := range notEntries() {
		checkOwn(t, 1, 2, 3, e, false)
	}
}

// TestNoRows are the places at which no row stands, and the ones beside them.
func TestNoRows(t *testing.T) {
	l := []api.Entry{data(1, 2, 3, 4), trim(5, 6)}
	for _, n := range append(huge(), -2, -1, 0, 1, 6, 7, 8, 9, 14, 15, 16, 17, 255, 256) {
		checkOwn(t, n, 0, 7, l[0], n >= 0 && n <= 15)
		checkParity(t, n, 0, 7, l, n >= 0 && n <= 15)
		checkOwn(t, 0, n, 7, l[0], n >= 0 && n <= 7)
		checkParity(t, 0, n, 7, l, n >= 0 && n <= 7)
	}
	for _, mask := range noMasks() {
		checkOwn(t, 0, 0, mask, l[0], false)
		for many := range 10 {
			checkParity(t, 0, 0, mask, slices.Repeat(l[:1], many), false)
		}
	}
}

func TestParity(t *testing.T) {
	s, ok := Parity(3, 4, 0b1011, []api.Entry{
		{Lpn: 0b1100, Seq: 0b110, Role: api.RData, Data: api.Data{0b1100, 15: 0b0110}},
		{Lpn: 0b1010, Seq: 0b011, Role: api.RData, Data: api.Data{0b1010, 15: 0b0011}},
	})
	want := api.Sherd{Lpn: 0b0110, Seq: 0b101, Data: api.Data{0b0110, 15: 0b0101}, Kind: api.KParity, Block: 3, Row: 4, Mask: 0b1011}
	if s != want || !ok {
		t.Errorf("P10.1: a parity = %v, %v, not %v", s, ok, want)
	}
	s, ok = Parity(0, 7, 0b110, []api.Entry{data(65535, 1<<40-1, 1, 2)})
	want = api.Sherd{Role: api.RData, Lpn: 65535, Seq: 1<<40 - 1, Data: api.Data{1, 15: 2}, Kind: api.KParity, Row: 7, Mask: 0b110}
	if s != want || !ok {
		t.Errorf("P10.1: a parity of one = %v, %v, not %v", s, ok, want)
	}
}

// TestParityCounts asks for as many entries as a row has slots.
func TestParityCounts(t *testing.T) {
	e := []api.Entry{data(9, 8, 7, 6)}
	for _, mask := range masks() {
		for many := range 11 {
			l := slices.Repeat(e, many)
			checkParity(t, 2, 3, mask, l, many == mathbits.OnesCount(uint(mask))-1)
		}
	}
	checkParity(t, 0, 0, 3, nil, false)
	checkParity(t, 0, 0, 0, nil, false)
	checkParity(t, 0, 0, 0, []api.Entry{}, false)
	checkParity(t, 0, 0, 255, slices.Repeat(e, 100000), false)
}

// TestParityOfWhatMayNotBe puts each such entry into each slot.
func TestParityOfWhatMayNotBe(t *testing.T) {
	for _, e := range notEntries() {
		checkParity(t, 0, 0, 3, []api.Entry{e}, false)
		for slot := range 3 {
			l := []api.Entry{data(1, 2, 3, 4), trim(5, 6), pad()}
			l[slot] = e
			checkParity(t, 0, 0, 15, l, false)
		}
	}
}

func TestRows(t *testing.T) {
	checkRow(t, 0, 0, 3, []api.Entry{data(4, 5, 6, 7)})
	checkRow(t, 0, 0, 3, []api.Entry{trim(4, 5)})
	checkRow(t, 0, 0, 3, []api.Entry{lost(4, 5)})
	checkRow(t, 0, 0, 3, []api.Entry{pad()})
	checkRow(t, 1, 2, 0b10011, []api.Entry{data(4, 5, 6, 7), data(4, 5, 6, 7)})
	checkRow(t, 1, 2, 0b10011, []api.Entry{pad(), pad()})
	checkRow(t, 15, 7, 255, []api.Entry{data(65535, 1<<40-1, 255, 255), trim(65535, 0), lost(0, 1<<40-1), pad(), data(0, 0, 0, 0), trim(1, 2), lost(3, 4)})
}

// TestBackOfNoParity gives Back a parity that is none, with others that would go with it.
func TestBackOfNoParity(t *testing.T) {
	l := []api.Entry{data(1, 2, 3, 4), data(5, 6, 7, 8), data(9, 10, 11, 12)}
	parity, others := parityOf(4, 5, 0b11101, l), owns(4, 5, 0b11101, l)[1:]
	checkBack(t, parity, others, l[0])
	for _, f := range []func(s *api.Sherd){
		func(s *api.Sherd) { *s = api.Sherd{} },
		func(s *api.Sherd) { s.Kind = api.KOwn },
		func(s *api.Sherd) { s.Kind = 0 },
		func(s *api.Sherd) { s.Kind = 3 },
		func(s *api.Sherd) { s.Kind = 256 + api.KParity },
		func(s *api.Sherd) { s.Role += 256 },
		func(s *api.Sherd) { s.Lpn += 1 << 16 },
		func(s *api.Sherd) { s.Seq += 1 << 40 },
		func(s *api.Sherd) { s.Role -= 256 },
		func(s *api.Sherd) { s.Lpn -= 1 << 16 },
		func(s *api.Sherd) { s.Seq -= 1 << 40 },
	} {
		checkNoBack(t, changed(parity, f), others)
	}
	for _, n := range append(huge(), 16) {
		checkNoBack(t, changed(parity, func(s *api.Sherd) { s.Block = n }), owns(n, 5, 0b11101, l)[1:])
		checkNoBack(t, changed(parity, func(s *api.Sherd) { s.Row = n }), owns(4, n, 0b11101, l)[1:])
	}
	for _, mask := range noMasks() {
		for many := range 4 {
			checkNoBack(t, changed(parity, func(s *api.Sherd) { s.Mask = mask }), owns(4, 5, mask, l)[:many])
		}
	}
}

// TestBackOfAliens puts a sherd that does not go with the others into each of their places; but for
// what it is changed in, it goes with them.
func TestBackOfAliens(t *testing.T) {
	l := []api.Entry{data(1, 2, 3, 4), data(5, 6, 7, 8), data(9, 10, 11, 12), data(13, 14, 15, 16)}
	parity, others := parityOf(4, 5, 0b11111, l), owns(4, 5, 0b11111, l)[1:]
	checkBack(t, parity, others, l[0])
	for _, f := range []func(s *api.Sherd){
		func(s *api.Sherd) { *s = api.Sherd{} },
		func(s *api.Sherd) { s.Block++ },
		func(s *api.Sherd) { s.Block = 16 },
		func(s *api.Sherd) { s.Block += 256 },
		func(s *api.Sherd) { s.Row-- },
		func(s *api.Sherd) { s.Row = 8 },
		func(s *api.Sherd) { s.Row += 256 },
		func(s *api.Sherd) { s.Mask = 0b111110 },
		func(s *api.Sherd) { s.Mask = 0b1111 },
		func(s *api.Sherd) { s.Mask += 256 },
		func(s *api.Sherd) { s.Kind = api.KParity },
		func(s *api.Sherd) { s.Kind = 0 },
		func(s *api.Sherd) { s.Kind += 256 },
		func(s *api.Sherd) { s.Role = 0 },
		func(s *api.Sherd) { s.Role = api.RTrim },
		func(s *api.Sherd) { s.Role += 256 },
		func(s *api.Sherd) { s.Lpn += 1 << 16 },
		func(s *api.Sherd) { s.Lpn -= 1 << 16 },
		func(s *api.Sherd) { s.Seq += 1 << 40 },
		func(s *api.Sherd) { s.Seq -= 1 << 40 },
	} {
		for i := range others {
			bad := slices.Clone(others)
			f(&bad[i])
			checkNoBack(t, parity, bad)
		}
	}
}

// TestBackCounts asks for one fewer than a row has slots.
func TestBackCounts(t *testing.T) {
	e := data(9, 8, 7, 6)
	for _, mask := range masks() {
		slots := mathbits.OnesCount(uint(mask)) - 1
		for many := range 11 {
			// With an even number of others they fall out, with an odd one the parity has none.
			parity := changed(sherdOf(api.KParity, 2, 3, mask, e), func(s *api.Sherd) {
				if many%2 == 1 {
					s.Data, s.Role, s.Lpn, s.Seq = api.Data{}, 0, 0, 0
				}
			})
			others := owns(2, 3, mask, slices.Repeat([]api.Entry{e}, many))
			if many == slots-1 {
				checkBack(t, parity, others, e)
			} else {
				checkNoBack(t, parity, others)
			}
		}
	}
	checkBack(t, sherdOf(api.KParity, 2, 3, 3, e), nil, e)
	checkBack(t, sherdOf(api.KParity, 2, 3, 3, e), []api.Sherd{}, e)
	checkNoBack(t, sherdOf(api.KParity, 2, 3, 7, e), nil)
}

// TestBackOfWhatMayNotBe: what the others say together must be an entry of which a page can be.
func TestBackOfWhatMayNotBe(t *testing.T) {
	for role := range 256 {
		for _, e := range []api.Entry{
			{Role: role},
			{Role: role, Lpn: 3},
			{Role: role, Seq: 3},
			{Role: role, Data: api.Data{15: 3}},
			{Role: role, Lpn: 65535, Seq: 1<<40 - 1},
			{Role: role, Lpn: 65535, Seq: 1<<40 - 1, Data: api.Data{255}},
		} {
			checkSaid(t, e, mayBe(e))
		}
	}
}

// mayBe tells by the chapter's words whether a page can be of e, whose numbers are none too great.
func mayBe(e api.Entry) bool {
	isBare := e.Data == api.Data{}
	switch e.Role {
	case api.RData:
		return true
	case api.RTrim, api.RLost:
		return isBare
	}
	return e == pad()
}

// checkSaid asks back for e by no others and by two.
func checkSaid(t *testing.T, e api.Entry, may bool) {
	t.Helper()
	l := []api.Entry{data(1, 2, 3, 4), trim(5, 6)}
	for _, c := range []struct {
		parity api.Sherd
		others []api.Sherd
	}{
		{parityOf(2, 3, 0b11, []api.Entry{e}), nil},
		{parityOf(2, 3, 0b1111, append(slices.Clone(l), e)), owns(2, 3, 0b1111, l)},
	} {
		if may {
			checkBack(t, c.parity, c.others, e)
		} else {
			checkNoBack(t, c.parity, c.others)
		}
	}
}

// TestListsAreLeftAlone asks that what is handed in is not changed, spare room neither.
func TestListsAreLeftAlone(t *testing.T) {
	l := []api.Entry{data(1, 2, 3, 4), trim(5, 6), pad(), lost(7, 8), data(9, 10, 11, 12)}
	all := owns(4, 5, 0b1111, l)
	parity := parityOf(4, 5, 0b1111, l[:3])
	wantL, wantAll := slices.Clone(l), slices.Clone(all)
	Parity(4, 5, 0b1111, l[:3])
	Parity(4, 5, 0b1111, l[:2])
	Over(all[:3]...)
	Back(parity, all[1:3])
	Back(parity, all[1:2])
	if !slices.Equal(l, wantL) || !slices.Equal(all, wantAll) {
		t.Error("P0.3: a list was changed")
	}
}

// lot draws numbers, the same ones every time.
type lot uint64

func (l *lot) draw() uint64 {
	*l = *l*6364136223846793005 + 1442695040888963407
	u := uint64(*l)
	return u ^ u>>29
}

func (l *lot) below(n uint64) int {
	return int(l.draw() >> 20 % n)
}

// entry draws one of which a page can be.
func (l *lot) entry() api.Entry {
	e := api.Entry{Role: 1 + l.below(4)}
	if e.Role != api.RPad {
		e.Lpn, e.Seq = l.below(1<<16), int64(l.below(1<<40))
	}
	if e.Role == api.RData {
		for k := range e.Data {
			e.Data[k] = byte(l.below(256))
		}
	}
	return e
}

func TestManyRows(t *testing.T) {
	l := lot(1)
	for range 40 {
		for _, mask := range masks() {
			many := mathbits.OnesCount(uint(mask)) - 1
			row := []api.Entry{}
			for range many {
				row = append(row, l.entry())
			}
			checkRow(t, l.below(16), l.below(8), mask, row)
		}
	}
}

// TestAnyArguments asks for an end, no panic, and the same answer twice.
func TestAnyArguments(t *testing.T) {
	l := lot(2)
	numbers := append(append(huge(), noMasks()...), 1, 2, 3, 7, 8, 15, 16, 255)
	any := func() int { return numbers[l.below(uint64(len(numbers)))] }
	for range 20000 {
		e := api.Entry{Lpn: any(), Seq: int64(any()), Role: any(), Data: api.Data{byte(any())}}
		block, row, mask := any(), any(), any()
		entries := slices.Repeat([]api.Entry{e}, l.below(9))
		parity := sherdOf(any(), block, row, mask, e)
		others := slices.Repeat([]api.Sherd{sherdOf(any(), any(), any(), any(), e)}, l.below(9))
		s, ok := Own(block, row, mask, e)
		if again, okAgain := Own(block, row, mask, e); s != again || ok != okAgain || !ok && s != (api.Sherd{}) {
			t.Fatalf("P0.5: Own twice: %v, %v", s, again)
		}
		s, ok = Parity(block, row, mask, entries)
		if again, okAgain := Parity(block, row, mask, entries); s != again || ok != okAgain || !ok && s != (api.Sherd{}) {
			t.Fatalf("P0.5: Parity twice: %v, %v", s, again)
		}
		b, ok := Back(parity, others)
		if again, okAgain := Back(parity, others); b != again || ok != okAgain || !ok && b != (api.Entry{}) {
			t.Fatalf("P0.5: Back twice: %v, %v", b, again)
		}
		d, m := Over(others...)
		if dAgain, mAgain := Over(others...); d != dAgain || m != mAgain {
			t.Fatalf("P0.5: Over twice: %v, %v", d, dAgain)
		}
	}
	Over(make([]api.Sherd, 1<<20)...)
	Back(api.Sherd{}, make([]api.Sherd, 1<<20))
	Parity(0, 0, 255, make([]api.Entry, 1<<20))
}
