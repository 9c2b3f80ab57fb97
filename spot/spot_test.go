package spot

import (
	"bytes"
	"math"
	"slices"
	"testing"

	"ostrakon/api"
)

func at(die, block, page int) api.Addr {
	return api.Addr{Die: die, Block: block, Page: page}
}

// lot draws numbers, the same ones every time.
type lot uint64

func (l *lot) draw(below int) int {
	*l = *l*6364136223846793005 + 1442695040888963407
	return int(uint64(*l) >> 33 % uint64(below))
}

// edges are numbers whose differences wrap, and some that are alike when cut to fewer bits.
func edges() []int {
	return []int{math.MinInt, math.MinInt + 1, -1 << 32, -256, -1, 0, 1, 255, 256, 1 << 32, 1<<32 + 1, math.MaxInt - 1, math.MaxInt}
}

// ahead tells whether a comes ahead of b, as the chapter orders places.
func ahead(a, b api.Addr) bool {
	if a.Die != b.Die {
		return a.Die < b.Die
	}
	if a.Block != b.Block {
		return a.Block < b.Block
	}
	return a.Page < b.Page
}

// risen puts the places of l that may stay in order, one by one, so that it shares no sort with what it checks.
func risen(l []api.Addr, stays func(api.Addr) bool) []api.Addr {
	out := []api.Addr{}
	for _, a := range l {
		if !stays(a) {
			continue
		}
		i := 0
		for i < len(out) && ahead(out[i], a) {
			i++
		}
		out = slices.Insert(out, i, a)
	}
	return out
}

// plain is a map by places without a map: the last pair of a place counts.
type plain struct {
	places []api.Addr
	values []int
}

func (p *plain) set(a api.Addr, v int) {
	p.drop(a)
	p.places = append(p.places, a)
	p.values = append(p.values, v)
}

func (p *plain) get(a api.Addr) (int, bool) {
	for i, b := range p.places {
		if b == a {
			return p.values[i], true
		}
	}
	return 0, false
}

func (p *plain) drop(a api.Addr) bool {
	for i, b := range p.places {
		if b == a {
			p.places = slices.Delete(p.places, i, i+1)
			p.values = slices.Delete(p.values, i, i+1)
			return true
		}
	}
	return false
}

// check holds all that m tells of its places against p.
func check(t *testing.T, m *Map[int], p *plain) {
	t.Helper()
	if got := m.Len(); got != len(p.places) {
		t.Fatalf("P5.1: Len %d, not %d", got, len(p.places))
	}
	want := risen(p.places, func(api.Addr) bool { return true })
	if got := m.All(); !slices.Equal(got, want) {
		t.Fatalf("P5.1: All %v, not %v", got, want)
	}
	for _, a := range want {
		v, _ := p.get(a)
		if got, ok := m.Get(a); got != v || !ok {
			t.Fatalf("P5.1: Get(%v) = %d, %v, not %d", a, got, ok, v)
		}
	}
}

// checkBlock holds a block of m against p.
func checkBlock(t *testing.T, m *Map[int], p *plain, die, block int) {
	t.Helper()
	want := risen(p.places, func(a api.Addr) bool { return a.Die == die && a.Block == block })
	if got := m.Block(die, block); !slices.Equal(got, want) {
		t.Fatalf("P5.1: Block(%d, %d) = %v, not %v", die, block, got, want)
	}
}

func TestEmpty(t *testing.T) {
	for name, m := range map[string]*Map[int]{"New": New[int](), "zero": {}} {
		for _, k := range edges() {
			a := at(k, k, k)
			if v, ok := m.Get(a); v != 0 || ok {
				t.Errorf("P5.1: %s: Get(%v) = %d, %v", name, a, v, ok)
			}
			if m.Drop(a) {
				t.Errorf("P5.1: %s: Drop(%v)", name, a)
			}
			if l := m.Block(k, k); len(l) != 0 {
				t.Errorf("P5.1: %s: Block(%d, %d) = %v", name, k, k, l)
			}
		}
		if m.Len() != 0 || len(m.All()) != 0 {
			t.Errorf("P5.1: %s: Len %d, All %v", name, m.Len(), m.All())
		}
		m.Set(at(1, 2, 3), 4)
		if v, ok := m.Get(at(1, 2, 3)); v != 4 || !ok || m.Len() != 1 {
			t.Errorf("P5.1: %s: set, Get %d, %v, Len %d", name, v, ok, m.Len())
		}
	}
}

// TestNil: a nil Map has nothing, and nothing that is put into it.
func TestNil(t *testing.T) {
	var m *Map[[]int]
	for _, k := range edges() {
		a := at(k, k, k)
		m.Set(a, []int{1})
		if v, ok := m.Get(a); v != nil || ok {
			t.Errorf("P5.1: nil: Get(%v) = %v, %v", a, v, ok)
		}
		if m.Drop(a) {
			t.Errorf("P5.1: nil: Drop(%v)", a)
		}
		if l := m.Block(k, k); len(l) != 0 {
			t.Errorf("P5.1: nil: Block(%d, %d) = %v", k, k, l)
		}
		if m.Len() != 0 || len(m.All()) != 0 {
			t.Errorf("P5.1: nil: Len %d, All %v", m.Len(), m.All())
		}
	}
}

func TestSetGetDrop(t *testing.T) {
	m := New[string]()
	a, b := at(1, 2, 3), at(3, 2, 1)
	m.Set(a, "x")
	m.Set(b, "y")
	m.Set(a, "z")
	if v, ok := m.Get(a); v != "z" || !ok || m.Len() != 2 {
		t.Errorf("P5.1: set twice: %q, %v, Len %d", v, ok, m.Len())
	}
	if !m.Drop(a) || m.Drop(a) {
		t.Error("P5.1: Drop takes a place away once")
	}
	if v, ok := m.Get(a); v != "" || ok {
		t.Errorf("P5.1: dropped: %q, %v", v, ok)
	}
	if v, ok := m.Get(b); v != "y" || !ok || m.Len() != 1 {
		t.Errorf("P5.1: the other one: %q, %v, Len %d", v, ok, m.Len())
	}
	m.Set(a, "")
	if v, ok := m.Get(a); v != "" || !ok || m.Len() != 2 {
		t.Errorf("P5.1: a zero value stands, too: %q, %v, Len %d", v, ok, m.Len())
	}
	if !m.Drop(a) || m.Len() != 1 {
		t.Errorf("P5.1: a zero value is dropped, too: Len %d", m.Len())
	}
}

// TestEachPart: two places that differ in one part alone are two.
func TestEachPart(t *testing.T) {
	m, p := New[int](), &plain{}
	n := 0
	for _, die := range edges() {
		for _, block := range edges() {
			for _, page := range edges() {
				n++
				m.Set(at(die, block, page), n)
				p.set(at(die, block, page), n)
			}
		}
	}
	check(t, m, p)
	for _, die := range append(edges(), 2, -3) {
		for _, block := range append(edges(), 2, -3) {
			checkBlock(t, m, p, die, block)
		}
	}
	for i, die := range edges() {
		a := at(die, 0, 0)
		if !m.Drop(a) || m.Len() != n-i-1 {
			t.Errorf("P5.1: Drop(%v): Len %d", a, m.Len())
		}
		p.drop(a)
	}
	check(t, m, p)
}

func TestManySteps(t *testing.T) {
	draws := lot(5)
	m, p := New[int](), &plain{}
	for step := range 6000 {
		a := at(draws.draw(4)-1, draws.draw(5)-2, draws.draw(6)-3)
		if draws.draw(5) < 3 {
			m.Set(a, step)
			p.set(a, step)
		} else if got, want := m.Drop(a), p.drop(a); got != want {
			t.Fatalf("P5.1: step %d: Drop(%v) = %v, not %v", step, a, got, want)
		}
		b := at(draws.draw(4)-1, draws.draw(5)-2, draws.draw(6)-3)
		v, ok := p.get(b)
		if got, has := m.Get(b); got != v || has != ok {
			t.Fatalf("P5.1: step %d: Get(%v) = %d, %v, not %d, %v", step, b, got, has, v, ok)
		}
		checkBlock(t, m, p, b.Die, b.Block)
		if step%10 == 0 {
			check(t, m, p)
		}
	}
	for _, a := range m.All() {
		m.Drop(a)
	}
	check(t, m, &plain{})
}

// TestTwoMaps: what is done to one Map is not done to another one.
func TestTwoMaps(t *testing.T) {
	m, o := New[int](), New[int]()
	m.Set(at(0, 0, 0), 1)
	o.Set(at(0, 0, 1), 2)
	m.Set(at(0, 0, 2), 3)
	o.Drop(at(0, 0, 0))
	check(t, m, &plain{[]api.Addr{at(0, 0, 0), at(0, 0, 2)}, []int{1, 3}})
	check(t, o, &plain{[]api.Addr{at(0, 0, 1)}, []int{2}})
}

// TestAnyThings: a Map has things of any type.
func TestAnyThings(t *testing.T) {
	a := at(0, 1, 2)
	pages := New[api.Page]()
	p := api.Page{1, 2, 3}
	pages.Set(a, p)
	p[0] = 9
	if got, ok := pages.Get(a); got != (api.Page{1, 2, 3}) || !ok {
		t.Errorf("P5.1: a page: %v, %v", got, ok)
	}
	marks := New[struct{}]()
	marks.Set(a, struct{}{})
	if _, ok := marks.Get(a); !ok || marks.Len() != 1 {
		t.Errorf("P5.1: a mark: %v, Len %d", ok, marks.Len())
	}
	things := New[any]()
	things.Set(a, nil)
	if got, ok := things.Get(a); got != nil || !ok || !things.Drop(a) {
		t.Errorf("P5.1: nil: %v, %v", got, ok)
	}
	outer := New[*Map[int]]()
	inner := New[int]()
	outer.Set(a, inner)
	if got, ok := outer.Get(a); got != inner || !ok {
		t.Errorf("P5.1: a Map: %v, %v", got, ok)
	}
}

// TestNewLists holds P0.3 of All and Block: what is written into an answer, its spare room too, changes nothing.
func TestNewLists(t *testing.T) {
	m, p := New[int](), &plain{}
	for page := range 7 {
		m.Set(at(0, 0, page), page)
		p.set(at(0, 0, page), page)
	}
	for range 3 {
		kept := [][]api.Addr{m.All(), m.Block(0, 0)}
		for _, l := range [][]api.Addr{m.All(), m.Block(0, 0)} {
			full := l[:cap(l)]
			for i := range full {
				full[i] = at(9, 9, i)
			}
		}
		for _, l := range kept {
			if want := m.All(); !slices.Equal(l, want) {
				t.Errorf("P0.3: %v, not %v", l, want)
			}
		}
		check(t, m, p)
		checkBlock(t, m, p, 0, 0)
	}
}

// grouped is Twins by looking at each two pages.
func grouped(l []api.Page) [][]int {
	groups := [][]int{}
	for i := range l {
		group := []int{}
		for k := range l {
			if !bytes.Equal(l[i][:], l[k][:]) {
				continue
			}
			group = append(group, k)
		}
		if len(group) >= 2 && group[0] == i {
			groups = append(groups, group)
		}
	}
	return groups
}

// alike tells whether two answers of Twins are, an empty list being the same as none.
func alike(a, b [][]int) bool {
	return slices.EqualFunc(a, b, slices.Equal[[]int])
}

func TestTwins(t *testing.T) {
	a, b, c := api.Page{7}, api.Page{15: 7}, api.Page{}
	for _, x := range []struct {
		l    []api.Page
		want [][]int
	}{
		{nil, nil},
		{[]api.Page{}, nil},
		{[]api.Page{a}, nil},
		{[]api.Page{a, b, c}, nil},
		{[]api.Page{c, c}, [][]int{{0, 1}}},
		{[]api.Page{a, a, a}, [][]int{{0, 1, 2}}},
		{[]api.Page{a, b, b}, [][]int{{1, 2}}},
		{[]api.Page{a, b, a}, [][]int{{0, 2}}},
		{[]api.Page{a, b, b, a}, [][]int{{0, 3}, {1, 2}}},
		{[]api.Page{c, b, a, c, b, a, c}, [][]int{{0, 3, 6}, {1, 4}, {2, 5}}},
		{[]api.Page{c, b, c, a, a}, [][]int{{0, 2}, {3, 4}}},
	} {
		if got := Twins(x.l); !alike(got, x.want) {
			t.Errorf("P5.2: Twins(%v) = %v, not %v", x.l, got, x.want)
		}
	}
}

// TestTwinsEachBit: pages that differ in one bit alone are not alike.
func TestTwinsEachBit(t *testing.T) {
	base := api.Page{}
	for i := range base {
		base[i] = byte(37 * i)
	}
	l := []api.Page{base}
	for bit := range 8 * api.PageLen {
		p := base
		p[bit/8] ^= 1 << (bit % 8)
		l = append(l, p)
	}
	if got := Twins(l); len(got) != 0 {
		t.Errorf("P5.2: Twins of unlike pages: %v", got)
	}
	once := len(l)
	l = append(l, l...)
	got := Twins(l)
	if len(got) != once {
		t.Fatalf("P5.2: %d groups, not %d", len(got), once)
	}
	for i, group := range got {
		if !slices.Equal(group, []int{i, once + i}) {
			t.Errorf("P5.2: group %d is %v", i, group)
		}
	}
}

func TestTwinsOfMany(t *testing.T) {
	draws := lot(2)
	for n := range 120 {
		kinds := 1 + draws.draw(2*n+1)
		l := make([]api.Page, n)
		for i := range l {
			l[i] = api.Page{0: 1, 31: byte(draws.draw(kinds))}
		}
		if got, want := Twins(l), grouped(l); !alike(got, want) {
			t.Fatalf("P5.2: Twins(%v) = %v, not %v", l, got, want)
		}
	}
}

// TestTwinsLong: a long list of one page is one group, of unlike pages none.
func TestTwinsLong(t *testing.T) {
	const n = 100000
	l := make([]api.Page, n)
	if got := Twins(l); len(got) != 1 || len(got[0]) != n || got[0][n-1] != n-1 {
		t.Errorf("P5.2: %d groups of one page", len(got))
	}
	for i := range l {
		l[i] = api.Page{byte(i), 9: byte(i >> 8), 31: byte(i >> 16)}
	}
	if got := Twins(l); len(got) != 0 {
		t.Errorf("P5.2: %d groups of unlike pages", len(got))
	}
}

// TestTwinsKeepsNothing holds P0.3 of Twins: its list stays as it is, and its answers share nothing.
func TestTwinsKeepsNothing(t *testing.T) {
	a, b := api.Page{1}, api.Page{2}
	room := []api.Page{a, b, b, a, a, a, b}
	before := slices.Clone(room)
	l := room[:5]
	want := [][]int{{0, 3, 4}, {1, 2}}
	kept := Twins(l)
	if !slices.Equal(room, before) {
		t.Errorf("P0.3: the list became %v", room)
	}
	spoilt := Twins(l)
	for i := range spoilt {
		full := spoilt[i][:cap(spoilt[i])]
		for k := range full {
			full[k] = -1 - i
		}
	}
	for i, group := range spoilt {
		for k, n := range group[:cap(group)] {
			if n != -1-i {
				t.Errorf("P0.3: two groups share: group %d, %d is %d", i, k, n)
			}
		}
	}
	clear(spoilt[:cap(spoilt)])
	l[0] = b
	if !alike(kept, want) {
		t.Errorf("P0.3: an answer became %v", kept)
	}
	l[0] = a
	if got := Twins(l); !alike(got, want) {
		t.Errorf("P0.5: the same list again: %v", got)
	}
}
