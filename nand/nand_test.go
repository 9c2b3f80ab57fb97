package nand

import (
	"math"
	"testing"

	"ostrakon/api"
)

var measure = api.Geo{Dies: 3, Blocks: 8, Pages: 4}

func at(die, block, page int) api.Addr {
	return api.Addr{Die: die, Block: block, Page: page}
}

// filled is a page of which no byte is 255 and no two are alike.
func filled(x int) api.Page {
	var p api.Page
	for i := range p {
		p[i] = byte(x%200 + i)
	}
	return p
}

// tail is p with 255 from keep on.
func tail(p api.Page, keep int) api.Page {
	for i := range p {
		if i >= keep {
			p[i] = 255
		}
	}
	return p
}

func turned(p api.Page, i int, x byte) api.Page {
	p[i] ^= x
	return p
}

func fault(kind int, a api.Addr) api.Fault {
	return api.Fault{Kind: kind, Addr: a}
}

func turn(a api.Addr, i, x int) api.Fault {
	return api.Fault{Kind: api.FTurn, Addr: a, N: i, X: x}
}

// huge are numbers that are no place's, some of them one only when cut to fewer bits.
func huge() []int {
	return []int{math.MinInt, math.MinInt + 1, -1 << 32, -256, -8, -1, 16, 17, 255, 256, 1 << 32, 1<<32 + 1, math.MaxInt - 1, math.MaxInt}
}

func checkErr(t *testing.T, promise string, got, want api.Errno) {
	t.Helper()
	if got != want {
		t.Errorf("%s: told %d, not %d", promise, got, want)
	}
}

func checkPage(t *testing.T, promise string, n *Nand, a api.Addr, want api.Page) {
	t.Helper()
	if p, err := n.Read(a); p != want || err != api.OK {
		t.Errorf("%s: Read(%v) = %v, %d, not %v", promise, a, p, err, want)
	}
}

// checkNoPage holds P0.2, too: beside an error the page is zero.
func checkNoPage(t *testing.T, promise string, n *Nand, a api.Addr, want api.Errno) {
	t.Helper()
	if p, err := n.Read(a); p != (api.Page{}) || err != want {
		t.Errorf("%s: Read(%v) = %v, %d, not %d", promise, a, p, err, want)
	}
}

func checkBlock(t *testing.T, promise string, n *Nand, die, block, next, worn int) {
	t.Helper()
	if n.Next(die, block) != next || n.Worn(die, block) != worn {
		t.Errorf("%s: block %d of die %d: Next %d, Worn %d, not %d, %d", promise, block, die, n.Next(die, block), n.Worn(die, block), next, worn)
	}
}

func checkCounts(t *testing.T, promise string, n *Nand, ops, broken int) {
	t.Helper()
	if n.Ops() != ops || n.Broken() != broken {
		t.Errorf("%s: Ops %d, Broken %d, not %d, %d", promise, n.Ops(), n.Broken(), ops, broken)
	}
}

func checkFault(t *testing.T, promise string, n *Nand, f api.Fault, want bool) {
	t.Helper()
	if got := n.Fault(f); got != want {
		t.Errorf("%s: Fault(%v) = %v", promise, f, got)
	}
}

func TestNew(t *testing.T) {
	for _, g := range []api.Geo{{Dies: 3, Blocks: 8, Pages: 2}, {Dies: 6, Blocks: 16, Pages: 8}, {Dies: 4, Blocks: 11, Pages: 5}} {
		n := New(g)
		if n == nil || n.Geo() != g || !n.Power() {
			t.Fatalf("P7.1: New(%v) = %v", g, n)
		}
		checkCounts(t, "P7.1", n, 0, 0)
		for die := range g.Dies {
			if n.Dead(die) {
				t.Errorf("P7.1: %v: the die %d is dead", g, die)
			}
			for block := range g.Blocks {
				checkBlock(t, "P7.1", n, die, block, 0, 0)
				for page := range g.Pages {
					checkNoPage(t, "P7.1", n, at(die, block, page), api.ErrErased)
				}
			}
		}
	}
}

func TestNewOfWhatMayNotBe(t *testing.T) {
	for _, g := range []api.Geo{{}, {Dies: 2, Blocks: 8, Pages: 2}, {Dies: 7, Blocks: 8, Pages: 2}, {Dies: 3, Blocks: 7, Pages: 2}, {Dies: 3, Blocks: 17, Pages: 2}, {Dies: 3, Blocks: 8, Pages: 1}, {Dies: 3, Blocks: 8, Pages: 9}} {
		if New(g) != nil {
			t.Errorf("P7.1: New(%v) is one", g)
		}
	}
	for _, k := range huge() {
		for _, g := range []api.Geo{{Dies: k, Blocks: 8, Pages: 2}, {Dies: 3, Blocks: k + 1, Pages: 2}, {Dies: 3, Blocks: 8, Pages: k}} {
			if New(g) != nil {
				t.Errorf("P7.1: New(%v) is one", g)
			}
		}
	}
}

// TestWhole programs the greatest flash whole, so that no place is another one's.
func TestWhole(t *testing.T) {
	g := api.Geo{Dies: api.MaxDies, Blocks: api.MaxBlocks, Pages: api.MaxPages}
	n := New(g)
	content := func(a api.Addr) api.Page {
		return api.Page{byte(a.Die), byte(a.Block), byte(a.Page), 31: 1}
	}
	each := func(do func(a api.Addr)) {
		for die := range g.Dies {
			for block := range g.Blocks {
				for page := range g.Pages {
					do(at(die, block, page))
				}
			}
		}
	}
	each(func(a api.Addr) { checkErr(t, "P7.1", n.Program(a, content(a)), api.OK) })
	each(func(a api.Addr) { checkPage(t, "P7.1", n, a, content(a)) })
	checkCounts(t, "P7.1", n, g.Dies*g.Blocks*g.Pages, 0)
	checkErr(t, "P7.1", n.Erase(5, 0), api.OK)
	each(func(a api.Addr) {
		if a.Die == 5 && a.Block == 0 {
			checkNoPage(t, "P7.1", n, a, api.ErrErased)
			return
		}
		checkPage(t, "P7.1", n, a, content(a))
		checkBlock(t, "P7.1", n, a.Die, a.Block, g.Pages, 0)
	})
	checkBlock(t, "P7.1", n, 5, 0, 0, 1)
}

func TestOrder(t *testing.T) {
	n := New(measure)
	broken := 0
	for next := 0; next <= measure.Pages; next++ {
		for page := range measure.Pages {
			if page == next {
				continue
			}
			broken++
			checkErr(t, "P7.1", n.Program(at(1, 2, page), filled(90)), api.ErrOrder)
			checkCounts(t, "P7.1", n, next, broken)
			checkBlock(t, "P7.1", n, 1, 2, next, 0)
		}
		for page := range next {
			checkPage(t, "P7.1", n, at(1, 2, page), filled(page))
		}
		if next == measure.Pages {
			checkErr(t, "P7.1", n.Program(at(1, 2, next), filled(next)), api.ErrRange)
			continue
		}
		checkNoPage(t, "P7.1", n, at(1, 2, next), api.ErrErased)
		checkErr(t, "P7.1", n.Program(at(1, 2, next), filled(next)), api.OK)
	}
	checkCounts(t, "P7.1", n, measure.Pages, broken)
}

// TestErase: of a block erased now, begun, and full; each is an operation.
func TestErase(t *testing.T) {
	n := New(measure)
	ops := 0
	for worn := range 3 * (measure.Pages + 1) {
		pages := worn % (measure.Pages + 1)
		for page := range pages {
			checkErr(t, "P7.1", n.Program(at(0, 7, page), filled(worn)), api.OK)
			ops++
		}
		checkBlock(t, "P7.1", n, 0, 7, pages, worn)
		checkErr(t, "P7.1", n.Erase(0, 7), api.OK)
		ops++
		checkBlock(t, "P7.1", n, 0, 7, 0, worn+1)
		for page := range measure.Pages {
			checkNoPage(t, "P7.1", n, at(0, 7, page), api.ErrErased)
		}
		checkCounts(t, "P7.1", n, ops, 0)
	}
	checkBlock(t, "P7.1", n, 0, 6, 0, 0)
	checkBlock(t, "P7.1", n, 1, 7, 0, 0)
}

func TestWrongPlaces(t *testing.T) {
	n := New(measure)
	wrong := append(huge(), measure.Dies, measure.Pages, measure.Blocks)
	for _, k := range wrong {
		places := []api.Addr{at(k, k, k)}
		if k < 0 || k >= measure.Dies {
			places = append(places, at(k, 0, 0))
			checkErr(t, "P7.1", n.Erase(k, 0), api.ErrRange)
			checkBlock(t, "P7.1", n, k, 0, 0, 0)
			if n.Dead(k) {
				t.Errorf("P7.1: Dead(%d)", k)
			}
		}
		if k < 0 || k >= measure.Blocks {
			places = append(places, at(0, k, 0))
			checkErr(t, "P7.1", n.Erase(0, k), api.ErrRange)
			checkBlock(t, "P7.1", n, 0, k, 0, 0)
		}
		if k < 0 || k >= measure.Pages {
			places = append(places, at(0, 0, k))
		}
		for _, a := range places {
			checkErr(t, "P7.1", n.Program(a, filled(1)), api.ErrRange)
			checkNoPage(t, "P7.1", n, a, api.ErrRange)
			for kind := range 8 {
				checkFault(t, "P7.2", n, fault(kind, a), false)
			}
		}
	}
	checkCounts(t, "P7.1", n, 0, 0)
	for die := range measure.Dies {
		if n.Dead(die) {
			t.Errorf("P7.2: the die %d is dead", die)
		}
	}
}

// TestFirstError holds P0.2: ErrPower comes ahead of ErrRange, that of ErrDead, that of the rest.
func TestFirstError(t *testing.T) {
	n := New(measure)
	n.Fault(fault(api.FDie, at(1, 0, 0)))
	ask := func(a api.Addr, want api.Errno) {
		t.Helper()
		checkErr(t, "P0.2", n.Program(a, filled(1)), want)
		checkNoPage(t, "P0.2", n, a, want)
	}
	ask(at(1, 0, 1), api.ErrDead)
	ask(at(1, 0, 9), api.ErrRange)
	ask(at(1, 9, 0), api.ErrRange)
	checkErr(t, "P0.2", n.Erase(1, 9), api.ErrRange)
	checkErr(t, "P0.2", n.Erase(1, 0), api.ErrDead)
	n.Cut(-1, 0)
	for _, a := range []api.Addr{at(0, 0, 0), at(0, 0, 1), at(1, 0, 1), at(9, 0, 0), at(0, 0, -1)} {
		ask(a, api.ErrPower)
		checkErr(t, "P0.2", n.Erase(a.Die, a.Block), api.ErrPower)
	}
	checkCounts(t, "P0.2", n, 0, 0)
}

func TestKinds(t *testing.T) {
	n := New(measure)
	for kind := 1; kind <= 5; kind++ {
		checkFault(t, "P7.2", n, fault(kind, at(2, 7, 3)), true)
	}
	n = New(measure)
	for _, kind := range append(huge(), 0, 6, 7) {
		checkFault(t, "P7.2", n, fault(kind, at(0, 0, 0)), false)
	}
	checkErr(t, "P7.2", n.Program(at(0, 0, 0), filled(1)), api.OK)
	checkPage(t, "P7.2", n, at(0, 0, 0), filled(1))
	checkErr(t, "P7.2", n.Erase(0, 0), api.OK)
}

// TestOtherNumbers: At counts for no fault, N and X for none but FTurn.
func TestOtherNumbers(t *testing.T) {
	for _, k := range huge() {
		n := New(measure)
		for kind := 1; kind <= 4; kind++ {
			checkFault(t, "P7.2", n, api.Fault{At: k, Kind: kind, Addr: at(0, 0, 0), N: k, X: k}, true)
		}
		if !n.Dead(0) || n.Dead(1) {
			t.Errorf("P7.2: FDie with %d", k)
		}
		n.Program(at(1, 0, 0), filled(1))
		checkFault(t, "P7.2", n, api.Fault{At: k, Kind: api.FTurn, Addr: at(1, 0, 0), N: 2, X: 3}, true)
		checkPage(t, "P7.2", n, at(1, 0, 0), turned(filled(1), 2, 3))
	}
}

func TestProgramFault(t *testing.T) {
	n := New(measure)
	a := at(1, 3, 1)
	// Told twice, it is used but once.
	checkFault(t, "P7.2", n, fault(api.FProgram, a), true)
	checkFault(t, "P7.2", n, fault(api.FProgram, a), true)
	checkNoPage(t, "P7.2", n, a, api.ErrErased)
	checkErr(t, "P7.2", n.Program(a, filled(1)), api.ErrOrder)
	for _, other := range []api.Addr{at(1, 3, 0), at(1, 2, 0), at(1, 2, 1), at(0, 3, 0), at(0, 3, 1)} {
		checkErr(t, "P7.2", n.Program(other, filled(1)), api.OK)
	}
	checkErr(t, "P7.2", n.Program(a, filled(2)), api.ErrFail)
	checkNoPage(t, "P7.2", n, a, api.ErrRead)
	checkBlock(t, "P7.2", n, 1, 3, 2, 0)
	checkCounts(t, "P7.2", n, 6, 1)
	checkErr(t, "P7.2", n.Program(a, filled(2)), api.ErrOrder)
	checkErr(t, "P7.2", n.Program(at(1, 3, 2), filled(3)), api.OK)
	checkPage(t, "P7.2", n, at(1, 3, 0), filled(1))
	checkPage(t, "P7.2", n, at(1, 3, 2), filled(3))
	checkErr(t, "P7.2", n.Erase(1, 3), api.OK)
	for page := range 3 {
		checkErr(t, "P7.2", n.Program(at(1, 3, page), filled(page)), api.OK)
		checkPage(t, "P7.2", n, at(1, 3, page), filled(page))
	}
}

// TestProgramFaultForgotten: an erase forgets what was told of the block's pages, programmed ones and others, and of no other block's.
func TestProgramFaultForgotten(t *testing.T) {
	n := New(measure)
	n.Program(at(1, 3, 0), filled(1))
	for page := range measure.Pages {
		for _, block := range []int{3, 4} {
			checkFault(t, "P7.1", n, fault(api.FProgram, at(1, block, page)), true)
		}
		checkFault(t, "P7.1", n, fault(api.FProgram, at(2, 3, page)), true)
	}
	checkPage(t, "P7.2", n, at(1, 3, 0), filled(1))
	checkErr(t, "P7.1", n.Erase(1, 3), api.OK)
	for page := range measure.Pages {
		checkErr(t, "P7.1", n.Program(at(1, 3, page), filled(page)), api.OK)
		checkErr(t, "P7.1", n.Program(at(1, 4, page), filled(page)), api.ErrFail)
		checkErr(t, "P7.1", n.Program(at(2, 3, page), filled(page)), api.ErrFail)
	}
}

func TestEraseFault(t *testing.T) {
	n := New(measure)
	n.Program(at(0, 5, 0), filled(1))
	checkFault(t, "P7.2", n, fault(api.FErase, at(0, 5, 3)), true)
	// Not met, it fails no program.
	checkErr(t, "P7.2", n.Program(at(0, 5, 1), filled(2)), api.OK)
	for k := range 3 {
		checkErr(t, "P7.1", n.Erase(0, 5), api.ErrFail)
		checkBlock(t, "P7.1", n, 0, 5, 2, 0)
		checkPage(t, "P7.1", n, at(0, 5, 0), filled(1))
		checkPage(t, "P7.1", n, at(0, 5, 1), filled(2))
		checkNoPage(t, "P7.1", n, at(0, 5, 2), api.ErrErased)
		checkCounts(t, "P7.1", n, 3+k, 0)
	}
	checkErr(t, "P7.1", n.Program(at(0, 5, 3), filled(3)), api.ErrOrder)
	checkErr(t, "P7.1", n.Program(at(0, 5, 2), filled(3)), api.ErrFail)
	checkNoPage(t, "P7.1", n, at(0, 5, 2), api.ErrRead)
	checkErr(t, "P7.1", n.Program(at(0, 5, 3), filled(3)), api.ErrFail)
	checkBlock(t, "P7.1", n, 0, 5, 4, 0)
	checkCounts(t, "P7.1", n, 7, 1)
	for _, other := range []api.Addr{at(0, 4, 0), at(1, 5, 0)} {
		checkErr(t, "P7.2", n.Program(other, filled(4)), api.OK)
		checkErr(t, "P7.2", n.Erase(other.Die, other.Block), api.OK)
	}
	n.Cut(-1, 0)
	n.On()
	checkErr(t, "P7.2", n.Erase(0, 5), api.ErrFail)
}

// TestEraseFaultForgetsNothing: "nothing else changes" where an erase fails.
func TestEraseFaultForgetsNothing(t *testing.T) {
	n := New(measure)
	n.Program(at(0, 5, 0), filled(1))
	n.Program(at(0, 5, 1), filled(2))
	n.Fault(fault(api.FRead, at(0, 5, 0)))
	n.Fault(turn(at(0, 5, 1), 0, 1))
	n.Fault(fault(api.FErase, at(0, 5, 0)))
	checkErr(t, "P7.1", n.Erase(0, 5), api.ErrFail)
	checkNoPage(t, "P7.1", n, at(0, 5, 0), api.ErrRead)
	checkPage(t, "P7.1", n, at(0, 5, 1), turned(filled(2), 0, 1))
	checkFault(t, "P7.2", n, turn(at(0, 5, 1), 0, 1), false)
}

func TestReadFault(t *testing.T) {
	n := New(measure)
	a := at(2, 1, 1)
	// Of a page that is erased now it is nothing.
	checkFault(t, "P7.2", n, fault(api.FRead, a), true)
	checkNoPage(t, "P7.2", n, a, api.ErrErased)
	for page := range 3 {
		checkErr(t, "P7.2", n.Program(at(2, 1, page), filled(page)), api.OK)
		checkPage(t, "P7.2", n, at(2, 1, page), filled(page))
	}
	for range 2 {
		checkFault(t, "P7.2", n, fault(api.FRead, a), true)
		checkNoPage(t, "P7.2", n, a, api.ErrRead)
		checkPage(t, "P7.2", n, at(2, 1, 0), filled(0))
		checkPage(t, "P7.2", n, at(2, 1, 2), filled(2))
		checkBlock(t, "P7.2", n, 2, 1, 3, 0)
	}
	n.Cut(-1, 0)
	n.On()
	checkNoPage(t, "P7.2", n, a, api.ErrRead)
	checkErr(t, "P7.1", n.Erase(2, 1), api.OK)
	checkNoPage(t, "P7.1", n, a, api.ErrErased)
	for page := range 2 {
		checkErr(t, "P7.1", n.Program(at(2, 1, page), filled(9)), api.OK)
		checkPage(t, "P7.1", n, at(2, 1, page), filled(9))
	}
	checkCounts(t, "P7.2", n, 6, 0)
}

func TestDieFault(t *testing.T) {
	n := New(measure)
	n.Program(at(1, 2, 0), filled(1))
	n.Erase(1, 3)
	checkFault(t, "P7.2", n, fault(api.FDie, at(1, 7, 3)), true)
	for range 2 {
		if n.Dead(0) || !n.Dead(1) || n.Dead(2) {
			t.Errorf("P7.2: dead: %v, %v, %v", n.Dead(0), n.Dead(1), n.Dead(2))
		}
		checkErr(t, "P7.2", n.Program(at(1, 2, 1), filled(2)), api.ErrDead)
		checkErr(t, "P7.2", n.Program(at(1, 2, 3), filled(2)), api.ErrDead)
		checkNoPage(t, "P7.2", n, at(1, 2, 0), api.ErrDead)
		checkNoPage(t, "P7.2", n, at(1, 2, 3), api.ErrDead)
		checkErr(t, "P7.2", n.Erase(1, 2), api.ErrDead)
		checkBlock(t, "P7.2", n, 1, 2, 1, 0)
		checkBlock(t, "P7.2", n, 1, 3, 0, 1)
		checkCounts(t, "P7.2", n, 2, 0)
		n.Cut(-1, 0)
		n.On()
	}
	checkErr(t, "P7.2", n.Program(at(0, 2, 0), filled(2)), api.OK)
}

func TestTurnFault(t *testing.T) {
	for i := range api.PageLen {
		n := New(measure)
		n.Program(at(0, 0, 0), filled(i))
		n.Program(at(0, 0, 1), filled(i))
		x := 8*i + 1
		checkFault(t, "P7.2", n, turn(at(0, 0, 0), i, x), true)
		checkPage(t, "P7.2", n, at(0, 0, 0), turned(filled(i), i, byte(x)))
		// Not a second time, be it of another byte, or back.
		checkFault(t, "P7.2", n, turn(at(0, 0, 0), i, x), false)
		checkFault(t, "P7.2", n, turn(at(0, 0, 0), (i+1)%api.PageLen, x), false)
		checkPage(t, "P7.2", n, at(0, 0, 0), turned(filled(i), i, byte(x)))
		checkPage(t, "P7.2", n, at(0, 0, 1), filled(i))
		checkCounts(t, "P7.2", n, 2, 0)
		checkBlock(t, "P7.2", n, 0, 0, 2, 0)
	}
}

// TestTurnModulo: X counts modulo 256, below 0 too; one of 0 turns the page, though it stays as it was.
func TestTurnModulo(t *testing.T) {
	for _, c := range []struct {
		x    int
		want byte
	}{{0, 0}, {1, 1}, {255, 255}, {256, 0}, {259, 3}, {-1, 255}, {-255, 1}, {-256, 0}, {-258, 254}, {1<<32 + 7, 7}, {math.MaxInt, 255}, {math.MinInt, 0}, {math.MinInt + 5, 5}} {
		n := New(measure)
		n.Program(at(0, 0, 0), filled(7))
		checkFault(t, "P7.2", n, turn(at(0, 0, 0), 9, c.x), true)
		checkPage(t, "P7.2", n, at(0, 0, 0), turned(filled(7), 9, c.want))
		checkFault(t, "P7.2", n, turn(at(0, 0, 0), 9, 1), false)
		checkPage(t, "P7.2", n, at(0, 0, 0), turned(filled(7), 9, c.want))
	}
}

// TestTurnWrongByte: of no page there is a byte beyond the 31st, and a turn of it isn't one.
func TestTurnWrongByte(t *testing.T) {
	n := New(measure)
	n.Program(at(0, 0, 0), filled(1))
	n.Program(at(0, 0, 1), filled(2))
	n.Fault(fault(api.FRead, at(0, 0, 1)))
	for _, i := range append(huge(), 32, 33, 63, 64) {
		if i == 16 || i == 17 {
			continue
		}
		for page := range 3 {
			checkFault(t, "P7.2", n, turn(at(0, 0, page), i, 1), false)
		}
	}
	checkPage(t, "P7.2", n, at(0, 0, 0), filled(1))
	checkFault(t, "P7.2", n, turn(at(0, 0, 0), 31, 1), true)
	checkPage(t, "P7.2", n, at(0, 0, 0), turned(filled(1), 31, 1))
}

// TestTurnOfNoPage: of what is erased, or can't be read, a turn is nothing, as often as it is told.
func TestTurnOfNoPage(t *testing.T) {
	n := New(measure)
	n.Fault(fault(api.FProgram, at(0, 0, 1)))
	for page := range 3 {
		for range 2 {
			checkFault(t, "P7.2", n, turn(at(0, 0, page), 0, 1), true)
		}
		n.Program(at(0, 0, page), filled(page))
	}
	n.Fault(fault(api.FRead, at(0, 0, 2)))
	for range 2 {
		checkFault(t, "P7.2", n, turn(at(0, 0, 1), 0, 1), true)
		checkFault(t, "P7.2", n, turn(at(0, 0, 2), 0, 1), true)
	}
	checkPage(t, "P7.2", n, at(0, 0, 0), filled(0))
	checkNoPage(t, "P7.2", n, at(0, 0, 1), api.ErrRead)
	checkNoPage(t, "P7.2", n, at(0, 0, 2), api.ErrRead)
	checkFault(t, "P7.2", n, turn(at(0, 0, 0), 0, 1), true)
	checkFault(t, "P7.2", n, fault(api.FRead, at(0, 0, 0)), true)
	checkFault(t, "P7.2", n, turn(at(0, 0, 0), 0, 1), false)
	// An erase makes all of them pages like others.
	checkErr(t, "P7.1", n.Erase(0, 0), api.OK)
	for page := range 3 {
		checkFault(t, "P7.2", n, turn(at(0, 0, page), 0, 1), true)
		n.Program(at(0, 0, page), filled(page))
		checkFault(t, "P7.2", n, turn(at(0, 0, page), 0, 1), true)
		checkFault(t, "P7.2", n, turn(at(0, 0, page), 0, 1), false)
		checkPage(t, "P7.2", n, at(0, 0, page), turned(filled(page), 0, 1))
	}
}

// TestTurnUnseen: neither a dead die nor power that is gone keeps a page from being turned.
func TestTurnUnseen(t *testing.T) {
	n := New(measure)
	n.Program(at(0, 0, 0), filled(1))
	n.Program(at(1, 0, 0), filled(2))
	n.Fault(fault(api.FDie, at(1, 0, 0)))
	n.Cut(-1, 0)
	for die := range 2 {
		checkFault(t, "P7.2", n, turn(at(die, 0, 0), 0, 1), true)
		checkFault(t, "P7.2", n, turn(at(die, 0, 0), 0, 1), false)
	}
	n.On()
	checkPage(t, "P7.2", n, at(0, 0, 0), turned(filled(1), 0, 1))
	checkFault(t, "P7.2", n, turn(at(0, 0, 0), 0, 1), false)
}

// TestFaultsWithoutPower: a fault is told and counts though power is gone.
func TestFaultsWithoutPower(t *testing.T) {
	n := New(measure)
	n.Program(at(0, 0, 0), filled(1))
	n.Cut(-1, 0)
	checkFault(t, "P7.2", n, fault(api.FRead, at(0, 0, 0)), true)
	checkFault(t, "P7.2", n, fault(api.FProgram, at(0, 1, 0)), true)
	checkFault(t, "P7.2", n, fault(api.FErase, at(0, 2, 0)), true)
	checkFault(t, "P7.2", n, fault(api.FDie, at(1, 0, 0)), true)
	checkFault(t, "P7.2", n, fault(0, at(1, 0, 0)), false)
	if !n.Dead(1) {
		t.Error("P7.2: FDie without power")
	}
	n.On()
	checkNoPage(t, "P7.2", n, at(0, 0, 0), api.ErrRead)
	checkErr(t, "P7.2", n.Program(at(0, 1, 0), filled(1)), api.ErrFail)
	checkErr(t, "P7.2", n.Erase(0, 2), api.ErrFail)
	checkErr(t, "P7.2", n.Erase(1, 2), api.ErrDead)
}

func TestCutProgram(t *testing.T) {
	for _, keep := range []int{math.MinInt, -1, 0, 1, 2, 15, 30, 31, 32, 33, 256, 1 << 32, math.MaxInt} {
		n := New(measure)
		a := at(2, 3, 0)
		n.Cut(0, keep)
		checkErr(t, "P7.2", n.Program(a, filled(5)), api.ErrPower)
		if n.Power() {
			t.Errorf("P7.2: keep %d: there is power", keep)
		}
		checkNoPage(t, "P7.2", n, a, api.ErrPower)
		checkErr(t, "P7.2", n.Program(at(2, 3, 1), filled(6)), api.ErrPower)
		checkErr(t, "P7.2", n.Program(at(2, 3, 3), filled(6)), api.ErrPower)
		checkErr(t, "P7.2", n.Erase(0, 0), api.ErrPower)
		checkBlock(t, "P7.2", n, 2, 3, 1, 0)
		checkCounts(t, "P7.2", n, 1, 0)
		n.On()
		if !n.Power() {
			t.Errorf("P7.2: keep %d: no power behind On", keep)
		}
		want := tail(filled(5), keep)
		checkPage(t, "P7.2", n, a, want)
		checkFault(t, "P7.2", n, turn(a, 0, 1), false)
		checkPage(t, "P7.2", n, a, want)
		checkErr(t, "P7.2", n.Program(at(2, 3, 1), filled(6)), api.OK)
		checkPage(t, "P7.2", n, at(2, 3, 1), filled(6))
		checkFault(t, "P7.2", n, fault(api.FRead, a), true)
		checkNoPage(t, "P7.2", n, a, api.ErrRead)
		checkFault(t, "P7.2", n, turn(a, 0, 1), false)
		n.Erase(2, 3)
		checkErr(t, "P7.2", n.Program(a, filled(7)), api.OK)
		checkFault(t, "P7.2", n, turn(a, 0, 1), true)
	}
}

func TestCutErase(t *testing.T) {
	for pages := range measure.Pages + 1 {
		n := New(measure)
		n.Program(at(0, 1, 0), filled(9))
		for page := range pages {
			n.Program(at(0, 2, page), filled(page))
		}
		if pages > 0 {
			n.Fault(turn(at(0, 2, 0), 0, 1))
		}
		n.Cut(0, 32)
		checkErr(t, "P7.2", n.Erase(0, 2), api.ErrPower)
		checkCounts(t, "P7.2", n, pages+2, 0)
		n.On()
		checkBlock(t, "P7.2", n, 0, 2, measure.Pages, 0)
		for page := range measure.Pages {
			checkNoPage(t, "P7.2", n, at(0, 2, page), api.ErrRead)
			checkErr(t, "P7.2", n.Program(at(0, 2, page), filled(page)), api.ErrOrder)
			// What was turned is so still: an erase that was cut is none.
			checkFault(t, "P7.2", n, turn(at(0, 2, page), 0, 1), page > 0 || pages == 0)
			checkNoPage(t, "P7.2", n, at(0, 2, page), api.ErrRead)
		}
		checkPage(t, "P7.2", n, at(0, 1, 0), filled(9))
		checkErr(t, "P7.2", n.Erase(0, 2), api.OK)
		checkBlock(t, "P7.2", n, 0, 2, 0, 1)
		for page := range measure.Pages {
			checkNoPage(t, "P7.2", n, at(0, 2, page), api.ErrErased)
			checkErr(t, "P7.2", n.Program(at(0, 2, page), filled(page)), api.OK)
			checkFault(t, "P7.2", n, turn(at(0, 2, page), 0, 1), true)
		}
	}
}

// TestCutProgramThenErase: a program that was cut is so still behind an erase that was cut.
func TestCutProgramThenErase(t *testing.T) {
	n := New(measure)
	n.Cut(0, 3)
	n.Program(at(0, 2, 0), filled(1))
	n.On()
	n.Cut(0, 3)
	n.Erase(0, 2)
	n.On()
	checkNoPage(t, "P7.2", n, at(0, 2, 0), api.ErrRead)
	checkFault(t, "P7.2", n, turn(at(0, 2, 0), 0, 1), false)
	checkFault(t, "P7.2", n, turn(at(0, 2, 1), 0, 1), true)
}

// TestCutCounts: which operation is cut, counted in operations alone, be they done or not.
func TestCutCounts(t *testing.T) {
	for ops := range 12 {
		n := New(measure)
		n.Fault(fault(api.FProgram, at(0, 0, 1)))
		n.Fault(fault(api.FErase, at(0, 1, 0)))
		n.Fault(fault(api.FDie, at(2, 0, 0)))
		n.Cut(ops, 4)
		calls := []func() api.Errno{
			func() api.Errno { return n.Program(at(0, 0, 0), filled(1)) },
			func() api.Errno { return n.Program(at(0, 0, 1), filled(1)) },
			func() api.Errno { return n.Erase(0, 1) },
			func() api.Errno { return n.Erase(0, 0) },
		}
		wants := []api.Errno{api.OK, api.ErrFail, api.ErrFail, api.OK}
		for k := range ops + 1 {
			// None of these is an operation.
			checkErr(t, "P7.2", n.Program(at(0, 2, 1), filled(1)), api.ErrOrder)
			checkErr(t, "P7.2", n.Program(at(2, 2, 0), filled(1)), api.ErrDead)
			checkErr(t, "P7.2", n.Erase(0, 8), api.ErrRange)
			n.Read(at(0, 0, 0))
			n.Fault(fault(api.FRead, at(1, 1, 1)))
			want := wants[k%4]
			if k == ops {
				want = api.ErrPower
			} else if k > 3 && k%4 == 1 {
				want = api.OK // the FProgram is used
			}
			checkErr(t, "P7.2", calls[k%4](), want)
			checkCounts(t, "P7.2", n, k+1, k+1)
			if n.Power() != (k < ops) {
				t.Errorf("P7.2: Cut(%d): power %v behind %d operations", ops, n.Power(), k+1)
			}
		}
	}
}

// TestCutFarOff: a cut that is huge does not come, and no sum of it wraps.
func TestCutFarOff(t *testing.T) {
	for _, ops := range []int{math.MaxInt, math.MaxInt - 1, 1 << 32, 1<<31 - 1, 60} {
		n := New(measure)
		n.Erase(0, 0)
		n.Cut(ops, 0)
		for range 60 {
			checkErr(t, "P7.2", n.Erase(0, 0), api.OK)
		}
	}
}

// TestCutAheadOfFault: what would have told ErrFail is cut like any other one.
func TestCutAheadOfFault(t *testing.T) {
	n := New(measure)
	n.Fault(fault(api.FProgram, at(0, 0, 0)))
	n.Cut(0, 7)
	checkErr(t, "P7.2", n.Program(at(0, 0, 0), filled(1)), api.ErrPower)
	n.On()
	checkPage(t, "P7.2", n, at(0, 0, 0), tail(filled(1), 7))
	checkFault(t, "P7.2", n, turn(at(0, 0, 0), 0, 1), false)

	n.Fault(fault(api.FErase, at(0, 1, 0)))
	checkErr(t, "P7.2", n.Erase(0, 1), api.ErrFail)
	n.Cut(0, 8)
	checkErr(t, "P7.2", n.Program(at(0, 1, 0), filled(2)), api.ErrPower)
	n.On()
	checkPage(t, "P7.2", n, at(0, 1, 0), tail(filled(2), 8))

	for _, met := range []bool{false, true} {
		n = New(measure)
		n.Program(at(0, 1, 0), filled(2))
		n.Fault(fault(api.FErase, at(0, 1, 0)))
		if met {
			checkErr(t, "P7.2", n.Erase(0, 1), api.ErrFail)
		}
		n.Cut(0, 0)
		checkErr(t, "P7.2", n.Erase(0, 1), api.ErrPower)
		n.On()
		checkBlock(t, "P7.2", n, 0, 1, measure.Pages, 0)
		checkNoPage(t, "P7.2", n, at(0, 1, 0), api.ErrRead)
		checkErr(t, "P7.2", n.Erase(0, 1), api.ErrFail)
		checkBlock(t, "P7.2", n, 0, 1, measure.Pages, 0)
	}
}

func TestCutAtOnce(t *testing.T) {
	for _, ops := range []int{-1, -2, -1 << 32, math.MinInt} {
		n := New(measure)
		n.Program(at(0, 0, 0), filled(1))
		n.Cut(ops, 0)
		if n.Power() {
			t.Errorf("P7.2: Cut(%d): there is power", ops)
		}
		checkErr(t, "P7.2", n.Program(at(0, 0, 1), filled(2)), api.ErrPower)
		checkErr(t, "P7.2", n.Erase(0, 0), api.ErrPower)
		checkNoPage(t, "P7.2", n, at(0, 0, 0), api.ErrPower)
		checkBlock(t, "P7.2", n, 0, 0, 1, 0)
		checkCounts(t, "P7.2", n, 1, 0)
		n.On()
		checkPage(t, "P7.2", n, at(0, 0, 0), filled(1))
		checkErr(t, "P7.2", n.Program(at(0, 0, 1), filled(2)), api.OK)
	}
}

// TestOn: it forgets a cut that did not come, told with power or without; one that came does not come again.
func TestOn(t *testing.T) {
	for name, tell := range map[string]func(n *Nand){
		"with power":    func(n *Nand) { n.Cut(1, 0) },
		"without power": func(n *Nand) { n.Cut(-1, 0); n.Cut(1, 0) },
		"both":          func(n *Nand) { n.Cut(1, 0); n.Cut(-1, 0) },
		"come":          func(n *Nand) { n.Cut(0, 0); n.Erase(0, 0) },
		"none":          func(n *Nand) {},
	} {
		n := New(measure)
		tell(n)
		n.On()
		if !n.Power() {
			t.Errorf("P7.2: %s: no power", name)
		}
		for range 9 {
			checkErr(t, "P7.2, "+name, n.Erase(0, 0), api.OK)
		}
	}
	n := New(measure)
	n.Cut(-1, 0)
	n.Cut(3, 0)
	if n.Power() {
		t.Error("P7.2: a Cut gives power back")
	}
}

func TestLaterCut(t *testing.T) {
	for _, first := range []int{0, 1, 4, math.MaxInt} {
		for later := range 4 {
			n := New(measure)
			n.Cut(first, 1)
			n.Cut(later, 9)
			for page := range later {
				checkErr(t, "P7.2", n.Program(at(0, 0, page), filled(page)), api.OK)
			}
			checkErr(t, "P7.2", n.Program(at(0, 0, later), filled(later)), api.ErrPower)
			n.On()
			checkPage(t, "P7.2", n, at(0, 0, later), tail(filled(later), 9))
		}
	}
	n := New(measure)
	n.Cut(2, 0)
	n.Erase(0, 0)
	n.Cut(2, 0)
	checkErr(t, "P7.2", n.Erase(0, 0), api.OK)
	checkErr(t, "P7.2", n.Erase(0, 0), api.OK)
	checkErr(t, "P7.2", n.Erase(0, 0), api.ErrPower)
}

func TestNil(t *testing.T) {
	var n *Nand
	for _, k := range append(huge(), 0, 1, 2) {
		a := at(k, k, k)
		n.Cut(k, k)
		n.On()
		checkErr(t, "P7.2", n.Program(a, filled(1)), api.ErrDown)
		checkErr(t, "P7.2", n.Erase(k, k), api.ErrDown)
		checkNoPage(t, "P7.2", n, a, api.ErrDown)
		checkBlock(t, "P7.2", n, k, k, 0, 0)
		for kind := range 7 {
			checkFault(t, "P7.2", n, fault(kind, a), false)
		}
		if !n.Dead(k) || n.Power() || n.Geo() != (api.Geo{}) {
			t.Errorf("P7.2: nil: Dead(%d) %v, Power %v, Geo %v", k, n.Dead(k), n.Power(), n.Geo())
		}
		checkCounts(t, "P7.2", n, 0, 0)
	}
}

// TestZero holds P0.1 of a Nand that New did not make: no place is its own.
func TestZero(t *testing.T) {
	n := &Nand{}
	for _, k := range append(huge(), 0, 1, 2) {
		a := at(k, k, k)
		n.Cut(k, k)
		n.On()
		checkErr(t, "P0.1", n.Program(a, filled(1)), api.ErrRange)
		checkErr(t, "P0.1", n.Erase(k, k), api.ErrRange)
		checkNoPage(t, "P0.1", n, a, api.ErrRange)
		checkBlock(t, "P0.1", n, k, k, 0, 0)
		checkFault(t, "P0.1", n, fault(api.FDie, a), false)
		if n.Dead(k) {
			t.Errorf("P0.1: Dead(%d)", k)
		}
	}
}
