package nand

import (
	"testing"

	"ostrakon/api"
)

// Kinds of what a diary notes of a block.
const (
	done     = iota // a program of page, which has bytes since
	undone          // a program that told ErrFail
	cutShort        // a program that was cut, of which bytes are left
	erased          // an erase
	unerased        // an erase that told ErrFail
	half            // an erase that was cut
	told            // a fault: kind, and of FTurn what page has since
)

type note struct {
	what  int
	page  int
	kind  int
	bytes api.Page
}

// diary is a flash that keeps no state of its pages, but all that befell its blocks, and answers by looking back at it.
type diary struct {
	g      api.Geo
	notes  map[[2]int][]note
	dead   map[int]int
	dark   bool
	cuts   bool
	until  int
	keep   int
	ops    int
	broken int
}

func newDiary(g api.Geo) *diary {
	return &diary{g: g, notes: make(map[[2]int][]note), dead: make(map[int]int)}
}

func (d *diary) add(die, block int, n note) {
	key := [2]int{die, block}
	d.notes[key] = append(d.notes[key], n)
}

// since is what befell a block since it was erased.
func (d *diary) since(die, block int) []note {
	l := d.notes[[2]int{die, block}]
	for i := len(l) - 1; i >= 0; i-- {
		if l[i].what == erased {
			return l[i+1:]
		}
	}
	return l
}

// count tells how many of l are of those kinds.
func count(l []note, whats ...int) int {
	sum := 0
	for _, n := range l {
		for _, what := range whats {
			if n.what == what {
				sum++
			}
		}
	}
	return sum
}

func countTold(l []note, kind int) int {
	sum := 0
	for _, n := range l {
		if n.what == told && n.kind == kind {
			sum++
		}
	}
	return sum
}

func (d *diary) next(die, block int) int {
	l := d.since(die, block)
	if count(l, half) > 0 {
		return d.g.Pages
	}
	return count(l, done, undone, cutShort)
}

func (d *diary) worn(die, block int) int {
	return count(d.notes[[2]int{die, block}], erased)
}

func (d *diary) in(a api.Addr) bool {
	return a.Die >= 0 && a.Die < d.g.Dies && a.Block >= 0 && a.Block < d.g.Blocks && a.Page >= 0 && a.Page < d.g.Pages
}

// err is the first of the errors of a place.
func (d *diary) err(a api.Addr) api.Errno {
	if d.dark {
		return api.ErrPower
	}
	if !d.in(a) {
		return api.ErrRange
	}
	if d.dead[a.Die] > 0 {
		return api.ErrDead
	}
	return api.OK
}

// goes tells whether power goes in the operation of that moment.
func (d *diary) goes() bool {
	now := d.ops
	d.ops++
	if d.cuts && now == d.until {
		d.dark = true
	}
	return d.dark
}

func (d *diary) program(a api.Addr, p api.Page) api.Errno {
	if err := d.err(a); err != api.OK {
		return err
	}
	if a.Page != d.next(a.Die, a.Block) {
		d.broken++
		return api.ErrOrder
	}
	if d.goes() {
		d.add(a.Die, a.Block, note{what: cutShort, page: a.Page, bytes: tail(p, d.keep)})
		return api.ErrPower
	}
	fails := count(d.notes[[2]int{a.Die, a.Block}], unerased) > 0
	for _, n := range d.since(a.Die, a.Block) {
		if n.what == told && n.kind == api.FProgram && n.page == a.Page {
			fails = true
		}
	}
	if fails {
		d.add(a.Die, a.Block, note{what: undone, page: a.Page})
		return api.ErrFail
	}
	d.add(a.Die, a.Block, note{what: done, page: a.Page, bytes: p})
	return api.OK
}

func (d *diary) erase(die, block int) api.Errno {
	if err := d.err(at(die, block, 0)); err != api.OK {
		return err
	}
	if d.goes() {
		d.add(die, block, note{what: half})
		return api.ErrPower
	}
	if countTold(d.notes[[2]int{die, block}], api.FErase) > 0 {
		d.add(die, block, note{what: unerased})
		return api.ErrFail
	}
	d.add(die, block, note{what: erased})
	return api.OK
}

// own is what a page has, whatever the power and its die.
func (d *diary) own(a api.Addr) (api.Page, api.Errno) {
	p, err := api.Page{}, api.ErrErased
	for _, n := range d.since(a.Die, a.Block) {
		switch {
		case n.what == half:
			p, err = api.Page{}, api.ErrRead
		case n.page != a.Page:
		case n.what == done || n.what == cutShort:
			p, err = n.bytes, api.OK
		case n.what == undone:
			err = api.ErrRead
		case n.what == told && n.kind == api.FRead && err != api.ErrErased:
			p, err = api.Page{}, api.ErrRead
		case n.what == told && n.kind == api.FTurn:
			p = n.bytes
		}
	}
	return p, err
}

func (d *diary) read(a api.Addr) (api.Page, api.Errno) {
	if err := d.err(a); err != api.OK {
		return api.Page{}, err
	}
	return d.own(a)
}

func (d *diary) turn(f api.Fault) bool {
	if f.N < 0 || f.N > 31 {
		return false
	}
	for _, n := range d.since(f.Addr.Die, f.Addr.Block) {
		if n.page == f.Addr.Page && (n.what == cutShort || n.what == told && n.kind == api.FTurn) {
			return false
		}
	}
	if p, err := d.own(f.Addr); err == api.OK {
		x := byte((f.X%256 + 256) % 256)
		d.add(f.Addr.Die, f.Addr.Block, note{what: told, page: f.Addr.Page, kind: api.FTurn, bytes: turned(p, f.N, x)})
	}
	return true
}

func (d *diary) fault(f api.Fault) bool {
	if !d.in(f.Addr) || f.Kind < 1 || f.Kind > 5 {
		return false
	}
	if f.Kind == api.FTurn {
		return d.turn(f)
	}
	if f.Kind == api.FDie {
		d.dead[f.Addr.Die]++
	}
	d.add(f.Addr.Die, f.Addr.Block, note{what: told, page: f.Addr.Page, kind: f.Kind})
	return true
}

func (d *diary) cut(ops, keep int) {
	if ops < 0 {
		d.dark = true
		return
	}
	d.cuts, d.until, d.keep = true, d.ops+ops, keep
}

func (d *diary) on() {
	d.dark, d.cuts = false, false
}

// lot draws numbers, the same ones every time.
type lot uint64

func (l *lot) draw(below int) int {
	*l = *l*6364136223846793005 + 1442695040888963407
	return int(uint64(*l) >> 33 % uint64(below))
}

// place draws a place of few blocks, now and then one that g has not.
func (l *lot) place(g api.Geo) api.Addr {
	a := at(l.draw(g.Dies), l.draw(2), l.draw(g.Pages))
	switch l.draw(60) {
	case 0:
		a.Die = g.Dies*l.draw(2) - l.draw(2)
	case 1:
		a.Block = g.Blocks*l.draw(2) - l.draw(2)
	case 2:
		a.Page = g.Pages*l.draw(2) - l.draw(2)
	}
	return a
}

// step does one thing to both, and holds what they answer against one another.
func step(t *testing.T, l *lot, n *Nand, d *diary) {
	t.Helper()
	a := l.place(d.g)
	switch k := l.draw(100); {
	case k < 45:
		if l.draw(8) > 0 {
			a.Page = d.next(a.Die, a.Block)
		}
		p := filled(l.draw(200))
		checkErr(t, "P7.1: Program", n.Program(a, p), d.program(a, p))
	case k < 65:
		checkErr(t, "P7.1: Erase", n.Erase(a.Die, a.Block), d.erase(a.Die, a.Block))
	case k < 66:
		checkFault(t, "P7.2", n, fault(api.FDie, a), d.fault(fault(api.FDie, a)))
	case k < 67:
		checkFault(t, "P7.2", n, fault(api.FErase, a), d.fault(fault(api.FErase, a)))
	case k < 72:
		checkFault(t, "P7.2", n, fault(api.FProgram, a), d.fault(fault(api.FProgram, a)))
	case k < 78:
		checkFault(t, "P7.2", n, fault(api.FRead, a), d.fault(fault(api.FRead, a)))
	case k < 86:
		f := turn(a, l.draw(34)-1, l.draw(1024)-512)
		checkFault(t, "P7.2", n, f, d.fault(f))
	case k < 87:
		f := fault(l.draw(9)-1, at(99, 0, 0))
		checkFault(t, "P7.2", n, f, d.fault(f))
	case k < 92:
		ops, keep := l.draw(12)-1, l.draw(40)-4
		n.Cut(ops, keep)
		d.cut(ops, keep)
	default:
		n.On()
		d.on()
	}
	if p, err := d.read(a); err == api.OK {
		checkPage(t, "P7.1", n, a, p)
	} else {
		checkNoPage(t, "P7.1", n, a, err)
	}
}

// checkAll holds all that a flash tells against the diary.
func checkAll(t *testing.T, n *Nand, d *diary) {
	t.Helper()
	checkCounts(t, "P7.1", n, d.ops, d.broken)
	if n.Power() == d.dark || n.Geo() != d.g {
		t.Errorf("P7.2: Power %v, Geo %v", n.Power(), n.Geo())
	}
	for die := range d.g.Dies {
		if n.Dead(die) != (d.dead[die] > 0) {
			t.Errorf("P7.2: Dead(%d) = %v", die, n.Dead(die))
		}
		for block := range d.g.Blocks {
			checkBlock(t, "P7.1", n, die, block, d.next(die, block), d.worn(die, block))
			for page := range d.g.Pages {
				a := at(die, block, page)
				if p, err := d.read(a); err == api.OK {
					checkPage(t, "P7.1", n, a, p)
				} else {
					checkNoPage(t, "P7.1", n, a, err)
				}
			}
		}
	}
}

// TestManySteps holds what a flash tells against a diary's answers, over many steps of all kinds.
func TestManySteps(t *testing.T) {
	for seed := range 400 {
		l := lot(seed)
		g := api.Geo{Dies: 3 + l.draw(4), Blocks: 8 + l.draw(9), Pages: 2 + l.draw(7)}
		n, d := New(g), newDiary(g)
		for k := range 300 {
			step(t, &l, n, d)
			if k%100 == 99 {
				checkAll(t, n, d)
			}
			if t.Failed() {
				t.Fatalf("seed %d, step %d", seed, k)
			}
		}
	}
}

// TestTwoFlashes holds P0.5: what is done to one flash is not done to another one, and the same steps tell the same.
func TestTwoFlashes(t *testing.T) {
	first, second := New(measure), New(measure)
	diaries := [2]*diary{newDiary(measure), newDiary(measure)}
	lots := [2]lot{1, 2}
	for range 400 {
		step(t, &lots[0], first, diaries[0])
		step(t, &lots[1], second, diaries[1])
	}
	checkAll(t, first, diaries[0])
	checkAll(t, second, diaries[1])
	again, l := New(measure), lot(1)
	fresh := newDiary(measure)
	for range 400 {
		step(t, &l, again, fresh)
	}
	checkAll(t, again, diaries[0])
}
