package fault

import (
	"math"
	"slices"
	"testing"

	"ostrakon/api"
	"ostrakon/nand"
)

var measure = api.Geo{Dies: 4, Blocks: 9, Pages: 3}

func at(die, block, page int) api.Addr {
	return api.Addr{Die: die, Block: block, Page: page}
}

// dies is a fault that lets a die die.
func dies(when, die int) api.Fault {
	return api.Fault{At: when, Kind: api.FDie, Addr: at(die, 0, 0)}
}

func turn(when int, a api.Addr, n, x int) api.Fault {
	return api.Fault{At: when, Kind: api.FTurn, Addr: a, N: n, X: x}
}

// huge are numbers that a fault has nowhere but in its At, some of them right ones when cut to fewer bits.
func huge() []int {
	return []int{math.MinInt, math.MinInt + 1, -1 << 32, -256, -8, -1, 256, 257, 1 << 32, 1<<32 + 1, math.MaxInt - 1, math.MaxInt}
}

func checkMay(t *testing.T, g api.Geo, f api.Fault, want bool) {
	t.Helper()
	if got := May(g, f); got != want {
		t.Errorf("P8.1: May(%v, %v) = %v", g, f, got)
	}
}

func checkDies(t *testing.T, l []api.Fault, want int) {
	t.Helper()
	if got := Dies(l); got != want {
		t.Errorf("P8.1: Dies(%v) = %d, not %d", l, got, want)
	}
}

func checkDue(t *testing.T, p *Plan, ops int, want ...api.Fault) {
	t.Helper()
	if got := p.Due(ops); !slices.Equal(got, want) {
		t.Errorf("P8.1: Due(%d) = %v, not %v", ops, got, want)
	}
}

func checkRun(t *testing.T, p *Plan, n *nand.Nand, want int) {
	t.Helper()
	if got := p.Run(n); got != want {
		t.Errorf("P8.1: Run = %d, not %d", got, want)
	}
}

func checkLeft(t *testing.T, p *Plan, want int) {
	t.Helper()
	if got := p.Left(); got != want {
		t.Errorf("P8.1: Left = %d, not %d", got, want)
	}
}

// erase does that many operations.
func erase(t *testing.T, n *nand.Nand, many int) {
	t.Helper()
	for range many {
		if err := n.Erase(0, 8); err != api.OK {
			t.Fatalf("P7.1: Erase told %d", err)
		}
	}
}

func TestMayOfEachKind(t *testing.T) {
	for kind := -3; kind <= 9; kind++ {
		for n := -2; n <= 34; n++ {
			for x := -2; x <= 258; x++ {
				want := false
				switch kind {
				case 1, 2, 3, 4:
					want = n == 0 && x == 0
				case 5:
					want = n > -1 && n < 32 && x > 0 && x < 256
				}
				checkMay(t, measure, api.Fault{At: 7, Kind: kind, Addr: at(3, 8, 2), N: n, X: x}, want)
			}
		}
	}
}

func TestMayOfEachTime(t *testing.T) {
	for _, when := range []int{0, 1, 2, 1 << 31, 1 << 32, math.MaxInt - 1, math.MaxInt} {
		checkMay(t, measure, dies(when, 1), true)
		checkMay(t, measure, turn(when, at(1, 1, 1), 31, 255), true)
	}
	for _, when := range []int{-1, -2, -1 << 31, -1 << 32, math.MinInt + 1, math.MinInt} {
		checkMay(t, measure, dies(when, 1), false)
		checkMay(t, measure, turn(when, at(1, 1, 1), 31, 255), false)
	}
}

// TestMayOfEachPlace asks for every kind that each of the place's numbers be below the measure's, a die's block and page, too.
func TestMayOfEachPlace(t *testing.T) {
	for kind := api.FProgram; kind <= api.FTurn; kind++ {
		f := api.Fault{Kind: kind}
		if kind == api.FTurn {
			f.X = 1
		}
		for die := -1; die <= 4; die++ {
			for block := -1; block <= 9; block++ {
				for page := -1; page <= 3; page++ {
					f.Addr = at(die, block, page)
					checkMay(t, measure, f, die >= 0 && die < 4 && block >= 0 && block < 9 && page >= 0 && page < 3)
				}
			}
		}
	}
}

func TestMayOfHugeNumbers(t *testing.T) {
	for _, k := range huge() {
		checkMay(t, measure, api.Fault{Kind: k}, false)
		checkMay(t, measure, api.Fault{Kind: k, X: 1}, false)
		for _, a := range []api.Addr{at(k, 0, 0), at(0, k, 0), at(0, 0, k)} {
			checkMay(t, measure, api.Fault{Kind: api.FRead, Addr: a}, false)
		}
		checkMay(t, measure, turn(0, at(0, 0, 0), k, 1), false)
		checkMay(t, measure, turn(0, at(0, 0, 0), 1, k), false)
		checkMay(t, measure, api.Fault{Kind: api.FErase, N: k}, false)
		checkMay(t, measure, api.Fault{Kind: api.FErase, X: k}, false)
	}
}

// TestMayOfMeasures asks that a measure be held against the place alone.
func TestMayOfMeasures(t *testing.T) {
	last := dies(0, 5)
	last.Addr = at(5, 15, 7)
	checkMay(t, api.Geo{Dies: 6, Blocks: 16, Pages: 8}, last, true)
	for _, g := range []api.Geo{{Dies: 5, Blocks: 16, Pages: 8}, {Dies: 6, Blocks: 15, Pages: 8}, {Dies: 6, Blocks: 16, Pages: 7}} {
		checkMay(t, g, last, false)
	}
	checkMay(t, api.Geo{}, dies(0, 0), false)
	checkMay(t, api.Geo{Dies: -1, Blocks: -1, Pages: -1}, dies(0, -2), false)
	checkMay(t, api.Geo{Dies: 1, Blocks: 1, Pages: 1}, dies(0, 0), true)
	checkMay(t, api.Geo{Dies: math.MaxInt, Blocks: 1, Pages: 1}, dies(0, math.MaxInt-1), true)
	checkMay(t, api.Geo{Dies: math.MinInt, Blocks: 8, Pages: 8}, dies(0, math.MinInt), false)
}

func TestDies(t *testing.T) {
	checkDies(t, nil, 0)
	checkDies(t, []api.Fault{}, 0)
	checkDies(t, []api.Fault{{}}, 1)
	checkDies(t, []api.Fault{dies(4, 1), dies(0, 2)}, 6)
	checkDies(t, []api.Fault{dies(0, 3), dies(1, 3), dies(2, 3)}, 8)
	checkDies(t, []api.Fault{{Kind: api.FRead, Addr: at(5, 1, 1)}, turn(9, at(0, 2, 2), 3, 4), {Kind: api.FErase, Addr: at(2, 7, 0)}}, 37)
	all := []api.Fault{}
	for die := range 8 {
		checkDies(t, []api.Fault{dies(0, die)}, 1<<die)
		all = append(all, dies(7-die, 7-die))
	}
	checkDies(t, all, 255)
	// Every one of the list counts, whether it may be or not.
	checkDies(t, []api.Fault{dies(-1, 1), {Kind: 77, Addr: at(4, -1, 99), N: 5}}, 18)
}

// TestDiesOfNoSet asks that a die that no set has be left out, and the others be kept.
func TestDiesOfNoSet(t *testing.T) {
	for _, die := range append(huge(), 8, 9, 63, 64, 65) {
		checkDies(t, []api.Fault{dies(0, die)}, 0)
		checkDies(t, []api.Fault{dies(0, 6), dies(0, die), dies(0, 0)}, 65)
	}
}

func TestNew(t *testing.T) {
	for _, p := range []*Plan{New(measure), New(measure, nil...), New(measure, []api.Fault{}...), New(api.Geo{}), New(api.Geo{}, dies(0, 0)), New(measure, dies(-1, 0))} {
		if p == nil {
			t.Fatal("P8.1: New is nil")
		}
		checkLeft(t, p, 0)
		checkDue(t, p, math.MaxInt)
		checkRun(t, p, nand.New(measure), 0)
	}
	p := New(measure, dies(0, 4), dies(-1, 0), dies(3, 2), api.Fault{Kind: 6}, turn(1, at(0, 0, 0), 0, 0), dies(0, 1), api.Fault{Kind: api.FRead, Addr: at(0, 0, 3)}, turn(1, at(0, 0, 0), 32, 1))
	checkLeft(t, p, 2)
	checkDue(t, p, math.MaxInt, dies(0, 1), dies(3, 2))
}

// TestListHandedIn holds P0.3: New neither changes the list nor its spare room, and keeps none of it.
func TestListHandedIn(t *testing.T) {
	room := []api.Fault{dies(3, 1), dies(-1, 9), dies(1, 2), dies(2, 3), dies(8, 1), dies(9, 1)}
	was := slices.Clone(room)
	p := New(measure, room[:4]...)
	if Dies(room[:4]) != 14 || !slices.Equal(room, was) {
		t.Errorf("P0.3: the list is %v by now", room)
	}
	for i := range room {
		room[i] = api.Fault{At: 50, Kind: 50}
	}
	checkDue(t, p, 2, dies(1, 2), dies(2, 3))
	for i := range room {
		if room[i] != (api.Fault{At: 50, Kind: 50}) {
			t.Errorf("P0.3: the list is %v by now", room)
		}
	}
	checkDue(t, p, 3, dies(3, 1))
}

func TestDue(t *testing.T) {
	p := New(measure, dies(5, 0), dies(2, 1), dies(5, 2), dies(2, 3), dies(0, 0), dies(7, 1), dies(math.MaxInt, 3))
	checkLeft(t, p, 7)
	checkDue(t, p, math.MinInt)
	checkDue(t, p, -1)
	checkLeft(t, p, 7)
	checkDue(t, p, 0, dies(0, 0))
	checkDue(t, p, 0)
	checkDue(t, p, 1)
	checkLeft(t, p, 6)
	checkDue(t, p, 4, dies(2, 1), dies(2, 3))
	checkLeft(t, p, 4)
	checkDue(t, p, 3)
	checkDue(t, p, 7, dies(5, 0), dies(5, 2), dies(7, 1))
	checkDue(t, p, math.MaxInt-1)
	checkLeft(t, p, 1)
	checkDue(t, p, math.MaxInt, dies(math.MaxInt, 3))
	checkLeft(t, p, 0)
	checkDue(t, p, math.MaxInt)
}

// TestDueOfAlikes asks that a fault that a plan has twice come twice, with all its numbers.
func TestDueOfAlikes(t *testing.T) {
	f := turn(6, at(3, 8, 2), 31, 255)
	p := New(measure, f, dies(6, 1), f)
	checkLeft(t, p, 3)
	checkDue(t, p, 5)
	checkDue(t, p, 6, f, dies(6, 1), f)
}

// TestDueOfMany asks for l's order in a list that is long enough for a sort that is not stable to lose it.
func TestDueOfMany(t *testing.T) {
	l := []api.Fault{}
	for i := range 1000 {
		l = append(l, turn(i*7%5, at(i%4, i/4%9, i/36%3), i/108%32, 1))
	}
	p := New(measure, l...)
	checkLeft(t, p, 1000)
	for ops := range 5 {
		want := []api.Fault{}
		for _, f := range l {
			if f.At == ops {
				want = append(want, f)
			}
		}
		checkDue(t, p, ops, want...)
	}
	checkLeft(t, p, 0)
}

// TestDueIsNew holds P0.3: who writes into an answer, its spare room too, changes no plan and no other answer.
func TestDueIsNew(t *testing.T) {
	p := New(measure, dies(0, 0), dies(0, 1), dies(1, 2), dies(2, 3))
	soil := func(l []api.Fault) {
		for i := range l[:cap(l)] {
			l[:cap(l)][i] = api.Fault{At: -7, Kind: 77}
		}
	}
	soil(p.Due(-1))
	first := p.Due(0)
	was := slices.Clone(first)
	second := p.Due(1)
	soil(second)
	if !slices.Equal(first, was) {
		t.Errorf("P0.3: the first answer is %v by now", first)
	}
	soil(first)
	checkDue(t, p, 2, dies(2, 3))
}

// TestTwoPlans holds P0.5: what is due of one plan stays in another one of the same list.
func TestTwoPlans(t *testing.T) {
	l := []api.Fault{dies(0, 1), dies(2, 2), dies(1, 3)}
	first, second := New(measure, l...), New(measure, l...)
	checkDue(t, first, 1, dies(0, 1), dies(1, 3))
	checkLeft(t, second, 3)
	checkDue(t, second, 0, dies(0, 1))
	checkDue(t, first, 2, dies(2, 2))
	checkDue(t, second, 9, dies(1, 3), dies(2, 2))
}

func TestRun(t *testing.T) {
	n := nand.New(measure)
	p := New(measure, dies(3, 2), dies(0, 1), dies(3, 3))
	checkRun(t, p, n, 1)
	if !n.Dead(1) || n.Dead(2) || n.Dead(3) {
		t.Error("P8.1: not the die 1 alone is dead")
	}
	checkRun(t, p, n, 0)
	erase(t, n, 2)
	checkRun(t, p, n, 0)
	checkLeft(t, p, 2)
	erase(t, n, 2)
	checkRun(t, p, n, 2)
	if n.Dead(0) || !n.Dead(2) || !n.Dead(3) {
		t.Error("P8.1: not the dies 1 to 3 are dead")
	}
	checkLeft(t, p, 0)
	if n.Ops() != 4 {
		t.Errorf("P8.1: Run did operations: %d", n.Ops())
	}
}

// TestRunOfEachKind asks that the flash be told the whole of a fault.
func TestRunOfEachKind(t *testing.T) {
	n := nand.New(measure)
	page := api.Page{5: 9, 31: 1}
	for _, a := range []api.Addr{at(0, 1, 0), at(1, 1, 0)} {
		if n.Program(a, page) != api.OK {
			t.Fatal("P7.1: Program")
		}
	}
	p := New(measure,
		api.Fault{At: 2, Kind: api.FProgram, Addr: at(0, 2, 0)},
		api.Fault{At: 2, Kind: api.FErase, Addr: at(0, 3, 2)},
		api.Fault{At: 2, Kind: api.FRead, Addr: at(0, 1, 0)},
		dies(2, 2),
		turn(2, at(1, 1, 0), 5, 255))
	checkRun(t, p, n, 5)
	if err := n.Program(at(0, 2, 0), page); err != api.ErrFail {
		t.Errorf("P8.1: FProgram: %d", err)
	}
	if err := n.Erase(0, 3); err != api.ErrFail {
		t.Errorf("P8.1: FErase: %d", err)
	}
	if _, err := n.Read(at(0, 1, 0)); err != api.ErrRead {
		t.Errorf("P8.1: FRead: %d", err)
	}
	if !n.Dead(2) {
		t.Error("P8.1: FDie")
	}
	page[5] = 246
	if got, err := n.Read(at(1, 1, 0)); got != page || err != api.OK {
		t.Errorf("P8.1: FTurn: %v, %d", got, err)
	}
}

// TestRunInOrder asks for the order of Due: of two turns of a page the flash takes the one that comes first.
func TestRunInOrder(t *testing.T) {
	a := at(0, 0, 0)
	for _, c := range []struct {
		l    []api.Fault
		want byte
	}{
		{[]api.Fault{turn(1, a, 0, 1), turn(1, a, 0, 2)}, 1},
		{[]api.Fault{turn(1, a, 0, 2), turn(1, a, 0, 1)}, 2},
		{[]api.Fault{turn(1, a, 0, 1), turn(0, a, 0, 2)}, 2},
	} {
		n := nand.New(measure)
		if n.Program(a, api.Page{}) != api.OK {
			t.Fatal("P7.1: Program")
		}
		checkRun(t, New(measure, c.l...), n, 2)
		if got, err := n.Read(a); got != (api.Page{c.want}) || err != api.OK {
			t.Errorf("P8.1: %v: %v, %d", c.l, got, err)
		}
	}
}

// TestRunOfWhatIsNotTaken asks that what is due count, though the flash tells that it can't be.
func TestRunOfWhatIsNotTaken(t *testing.T) {
	small := nand.New(api.Geo{Dies: 3, Blocks: 8, Pages: 2})
	p := New(measure, dies(0, 3), dies(0, 0), dies(1, 1))
	checkRun(t, p, small, 2)
	if !small.Dead(0) || small.Dead(1) || small.Dead(2) {
		t.Error("P8.1: not the die 0 alone is dead")
	}
	checkLeft(t, p, 1)
	// A flash that is none had no operations.
	p = New(measure, dies(0, 3), dies(1, 1))
	checkRun(t, p, nil, 1)
	checkDue(t, p, 1, dies(1, 1))
}

func TestRunWithoutPower(t *testing.T) {
	n := nand.New(measure)
	n.Cut(-1, 0)
	p := New(measure, dies(0, 1))
	checkRun(t, p, n, 1)
	if !n.Dead(1) || n.Power() {
		t.Error("P8.1: a fault did not come without power, or brought it")
	}
}

func TestNoPlan(t *testing.T) {
	n := nand.New(measure)
	for _, p := range []*Plan{nil, {}} {
		for _, ops := range []int{math.MinInt, -1, 0, 1, math.MaxInt} {
			checkDue(t, p, ops)
		}
		checkRun(t, p, n, 0)
		checkRun(t, p, nil, 0)
		checkLeft(t, p, 0)
	}
	var p *Plan
	if p.Due(5) != nil {
		t.Error("P8.1: Due of nil is not nil")
	}
}

// lot draws numbers, the same ones every time.
type lot uint64

func (l *lot) draw(below int) int {
	*l = *l*6364136223846793005 + 1442695040888963407
	return int(uint64(*l) >> 33 % uint64(below))
}

// fault draws one, now and then one that may not be.
func (l *lot) fault() (api.Fault, bool) {
	f := api.Fault{At: l.draw(20), Kind: 1 + l.draw(4), Addr: at(l.draw(4), l.draw(9), l.draw(3))}
	if l.draw(3) == 0 {
		f.Kind, f.N, f.X = api.FTurn, l.draw(32), 1+l.draw(255)
	}
	switch l.draw(12) {
	case 0:
		f.At = -1 - l.draw(3)
	case 1:
		f.Addr.Die = 4 + l.draw(3)
	case 2:
		f.Kind, f.N, f.X = api.FRead, 0, 1
	default:
		return f, true
	}
	return f, false
}

// first tells where in l the one stands that comes first; -1 where none comes by ops.
func first(l []api.Fault, ops int) int {
	k := -1
	for i, f := range l {
		if f.At <= ops && (k < 0 || f.At < l[k].At) {
			k = i
		}
	}
	return k
}

// TestManyPlans holds plans against lists of which one is taken after the other.
func TestManyPlans(t *testing.T) {
	for seed := range 500 {
		l := lot(seed)
		told, rest := []api.Fault{}, []api.Fault{}
		for range l.draw(60) {
			f, may := l.fault()
			told = append(told, f)
			if may {
				rest = append(rest, f)
			}
		}
		p := New(measure, told...)
		for range 12 {
			ops, want := l.draw(24)-2, []api.Fault{}
			for k := first(rest, ops); k >= 0; k = first(rest, ops) {
				want = append(want, rest[k])
				rest = slices.Delete(rest, k, k+1)
			}
			checkDue(t, p, ops, want...)
			checkLeft(t, p, len(rest))
		}
		if t.Failed() {
			t.Fatalf("seed %d", seed)
		}
	}
}
