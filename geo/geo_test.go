package geo

import (
	"math"
	"math/big"
	"slices"
	"testing"

	"ostrakon/api"
)

// dies is the dies of mask, rising, by division.
func dies(mask int) []int {
	l := []int{}
	for die := range 8 {
		if mask%2 == 1 {
			l = append(l, die)
		}
		mask /= 2
	}
	return l
}

// masks are all that a row can lie over.
func masks() []int {
	l := []int{}
	for mask := range 256 {
		if len(dies(mask)) >= 2 {
			l = append(l, mask)
		}
	}
	return l
}

// noMasks are none that a row can lie over, some of them one only when cut to fewer bits.
func noMasks() []int {
	l := []int{0, 1, 2, 4, 8, 16, 32, 64, 128, 256, 257, 259, 511, 1<<32 + 7, -1<<32 + 7, -1, -2, -249, -256, math.MinInt, math.MinInt + 7, math.MaxInt, math.MaxInt - 248}
	for mask := 256; mask < 520; mask++ {
		l = append(l, mask, 255-mask)
	}
	return l
}

// huge are numbers of which two wrap as a sum.
func huge() []int {
	l := []int{1<<31 - 1, 1 << 31, 1<<32 + 1, 1 << 62, 1<<62 + 1}
	for d := range 9 {
		l = append(l, math.MaxInt-d)
	}
	return l
}

// negative are numbers below 0, some of them above when cut to fewer bits.
func negative() []int {
	return []int{-1, -2, -3, -8, -255, -256, -1 << 31, -1 << 32, -1<<32 + 3, math.MinInt, math.MinInt + 1, math.MinInt + 3}
}

// edges are numbers about which a place or a measure goes over, and others far off.
func edges() []int {
	l := append(negative(), huge()...)
	for n := range 20 {
		l = append(l, n)
	}
	return append(l, 255, 256, 1<<32, 1<<32+3)
}

// wantParity is the parity's die by the chapter's words, in numbers that can't wrap.
func wantParity(mask, block, row int) int {
	l := dies(mask)
	sum := new(big.Int).Add(big.NewInt(int64(block)), big.NewInt(int64(row)))
	return l[sum.Mod(sum, big.NewInt(int64(len(l)))).Int64()]
}

// checkRow holds all that geo tells of a row against the chapter's words.
func checkRow(t *testing.T, mask, block, row int) {
	t.Helper()
	parity := wantParity(mask, block, row)
	if got := Parity(mask, block, row); got != parity {
		t.Errorf("P6.1: Parity(%d, %d, %d) = %d, not %d", mask, block, row, got, parity)
	}
	l := dies(mask)
	others := slices.DeleteFunc(l, func(die int) bool { return die == parity })
	if got := Slots(mask); got != len(others) {
		t.Errorf("P6.1: Slots(%d) = %d, not %d", mask, got, len(others))
	}
	for slot := -3; slot < 12; slot++ {
		want := -1
		if slot >= 0 && slot < len(others) {
			want = others[slot]
		}
		if got := Die(mask, block, row, slot); got != want {
			t.Errorf("P6.1: Die(%d, %d, %d, %d) = %d, not %d", mask, block, row, slot, got, want)
		}
	}
	for die := -3; die < 12; die++ {
		want := slices.Index(others, die)
		if got := Slot(mask, block, row, die); got != want {
			t.Errorf("P6.1: Slot(%d, %d, %d, %d) = %d, not %d", mask, block, row, die, got, want)
		}
	}
}

// checkNoRow holds what geo tells where there is no such row.
func checkNoRow(t *testing.T, mask, block, row int) {
	t.Helper()
	if got := Parity(mask, block, row); got != -1 {
		t.Errorf("P6.1: Parity(%d, %d, %d) = %d, not -1", mask, block, row, got)
	}
	for k := -2; k < 10; k++ {
		if got := Die(mask, block, row, k); got != -1 {
			t.Errorf("P6.1: Die(%d, %d, %d, %d) = %d, not -1", mask, block, row, k, got)
		}
		if got := Slot(mask, block, row, k); got != -1 {
			t.Errorf("P6.1: Slot(%d, %d, %d, %d) = %d, not -1", mask, block, row, k, got)
		}
	}
}

func TestMay(t *testing.T) {
	for _, x := range []struct {
		g    api.Geo
		want bool
	}{
		{api.Geo{}, false},
		{api.Geo{Dies: 3, Blocks: 8, Pages: 2}, true},
		{api.Geo{Dies: 6, Blocks: 16, Pages: 8}, true},
		{api.Geo{Dies: 4, Blocks: 12, Pages: 5}, true},
		{api.Geo{Dies: 2, Blocks: 8, Pages: 2}, false},
		{api.Geo{Dies: 7, Blocks: 8, Pages: 2}, false},
		{api.Geo{Dies: 3, Blocks: 7, Pages: 2}, false},
		{api.Geo{Dies: 3, Blocks: 17, Pages: 2}, false},
		{api.Geo{Dies: 3, Blocks: 8, Pages: 1}, false},
		{api.Geo{Dies: 3, Blocks: 8, Pages: 9}, false},
	} {
		if got := May(x.g); got != x.want {
			t.Errorf("P6.1: May(%v) = %v", x.g, got)
		}
	}
}

// TestEachMeasure asks all measures about the limits, and far off.
func TestEachMeasure(t *testing.T) {
	dieCounts := []int{3, 4, 5, 6}
	blockCounts := []int{8, 9, 10, 11, 12, 13, 14, 15, 16}
	pageCounts := []int{2, 3, 4, 5, 6, 7, 8}
	for _, d := range edges() {
		for _, b := range edges() {
			for _, p := range edges() {
				g := api.Geo{Dies: d, Blocks: b, Pages: p}
				want := slices.Contains(dieCounts, d) && slices.Contains(blockCounts, b) && slices.Contains(pageCounts, p)
				if got := May(g); got != want {
					t.Errorf("P6.1: May(%v) = %v", g, got)
				}
				if got := Logical(g); (got != 0) != want {
					t.Errorf("P6.1: Logical(%v) = %d", g, got)
				}
			}
		}
	}
}

func TestLogical(t *testing.T) {
	for _, x := range []struct {
		g    api.Geo
		want int
	}{
		{api.Geo{Dies: 3, Blocks: 8, Pages: 2}, 3},       // 6
		{api.Geo{Dies: 3, Blocks: 8, Pages: 3}, 5},       // 9, rounded up
		{api.Geo{Dies: 3, Blocks: 10, Pages: 3}, 8},      // 15, rounded up
		{api.Geo{Dies: 4, Blocks: 9, Pages: 3}, 12},      // 24
		{api.Geo{Dies: 5, Blocks: 12, Pages: 7}, 74},     // 147, rounded up
		{api.Geo{Dies: 6, Blocks: 16, Pages: 8}, 176},    // 352
		{api.Geo{Dies: 2, Blocks: 8, Pages: 2}, 0},       // none may be of two dies
		{api.Geo{Dies: 7, Blocks: 16, Pages: 8}, 0},      // nor of seven
		{api.Geo{Dies: 3, Blocks: 7, Pages: 8}, 0},       // too few blocks
		{api.Geo{Dies: 3, Blocks: 17, Pages: 8}, 0},      // too many
		{api.Geo{Dies: 3, Blocks: 8, Pages: 1}, 0},       // too few pages
		{api.Geo{Dies: 3, Blocks: 8, Pages: 9}, 0},       // too many
		{api.Geo{Dies: -3, Blocks: -8, Pages: 2}, 0},     // two signs make no plus
		{api.Geo{Dies: 1, Blocks: 4, Pages: 2}, 0},       // nor do two differences
		{api.Geo{Dies: math.MaxInt, Blocks: 8}, 0},       // no pages at all
		{api.Geo{Dies: math.MinInt, Blocks: 1 << 62}, 0}, // no product is made of these
	} {
		if got := Logical(x.g); got != x.want {
			t.Errorf("P6.1: Logical(%v) = %d, not %d", x.g, got, x.want)
		}
	}
}

// TestLogicalCounted counts half of the pages one by one, the odd one in.
func TestLogicalCounted(t *testing.T) {
	for d := 3; d <= 6; d++ {
		for b := 8; b <= 16; b++ {
			for p := 2; p <= 8; p++ {
				pages, want := 0, 0
				for range b - 5 {
					for range p {
						for range d - 2 {
							if pages%2 == 0 {
								want++
							}
							pages++
						}
					}
				}
				g := api.Geo{Dies: d, Blocks: b, Pages: p}
				if got := Logical(g); got != want {
					t.Errorf("P6.1: Logical(%v) = %d, not %d", g, got, want)
				}
			}
		}
	}
}

func TestIn(t *testing.T) {
	g := api.Geo{Dies: 4, Blocks: 9, Pages: 3}
	for _, x := range []struct {
		a    api.Addr
		want bool
	}{
		{api.Addr{}, true},
		{api.Addr{Die: 3, Block: 8, Page: 2}, true},
		{api.Addr{Die: 1, Block: 4, Page: 1}, true},
		{api.Addr{Die: 4, Block: 8, Page: 2}, false},
		{api.Addr{Die: 3, Block: 9, Page: 2}, false},
		{api.Addr{Die: 3, Block: 8, Page: 3}, false},
		{api.Addr{Die: -1}, false},
		{api.Addr{Block: -1}, false},
		{api.Addr{Page: -1}, false},
		{api.Addr{Die: 8, Block: 3, Page: 2}, false},
		{api.Addr{Die: 2, Block: 2, Page: 8}, false},
	} {
		if got := In(g, x.a); got != x.want {
			t.Errorf("P6.1: In(%v, %v) = %v", g, x.a, got)
		}
	}
}

// TestInEachPart holds each of a place's numbers against its own bound alone.
func TestInEachPart(t *testing.T) {
	g := api.Geo{Dies: 5, Blocks: 11, Pages: 7}
	first := make([]int, 11)
	for n := range first {
		first[n] = n
	}
	for _, die := range edges() {
		for _, block := range edges() {
			for _, page := range edges() {
				a := api.Addr{Die: die, Block: block, Page: page}
				want := slices.Contains(first[:5], die) && slices.Contains(first[:11], block) && slices.Contains(first[:7], page)
				if got := In(g, a); got != want {
					t.Errorf("P6.1: In(%v, %v) = %v", g, a, got)
				}
			}
		}
	}
}

// TestInAnyMeasure: the chapter asks of In no measure that may be.
func TestInAnyMeasure(t *testing.T) {
	wide := api.Geo{Dies: 100, Blocks: 1 << 40, Pages: math.MaxInt}
	if a := (api.Addr{Die: 99, Block: 1<<40 - 1, Page: math.MaxInt - 1}); !In(wide, a) {
		t.Errorf("P6.1: In(%v, %v) = false", wide, a)
	}
	if a := (api.Addr{Die: 99, Block: 1 << 40, Page: 0}); In(wide, a) {
		t.Errorf("P6.1: In(%v, %v) = true", wide, a)
	}
	for _, n := range append(negative(), 0) {
		for _, k := range edges() {
			a := api.Addr{Die: k, Block: k, Page: k}
			for _, g := range []api.Geo{{Dies: n, Blocks: 8, Pages: 2}, {Dies: 3, Blocks: n, Pages: 2}, {Dies: 3, Blocks: 8, Pages: n}, {Dies: n, Blocks: n, Pages: n}} {
				if In(g, a) {
					t.Errorf("P6.1: In(%v, %v) = true", g, a)
				}
			}
		}
	}
}

func TestRowExamples(t *testing.T) {
	mask := 0b101101 // the dies 0, 2, 3, 5
	for _, x := range []struct {
		block, row, parity int
		others             []int
	}{
		{0, 0, 0, []int{2, 3, 5}},
		{0, 1, 2, []int{0, 3, 5}},
		{1, 1, 3, []int{0, 2, 5}},
		{3, 0, 5, []int{0, 2, 3}},
		{3, 1, 0, []int{2, 3, 5}},
		{15, 7, 3, []int{0, 2, 5}},
	} {
		if got := Parity(mask, x.block, x.row); got != x.parity {
			t.Errorf("P6.1: Parity(%d, %d, %d) = %d, not %d", mask, x.block, x.row, got, x.parity)
		}
		if got := Slots(mask); got != 3 {
			t.Errorf("P6.1: Slots(%d) = %d, not 3", mask, got)
		}
		for slot, die := range x.others {
			if got := Die(mask, x.block, x.row, slot); got != die {
				t.Errorf("P6.1: Die(%d, %d, %d, %d) = %d, not %d", mask, x.block, x.row, slot, got, die)
			}
			if got := Slot(mask, x.block, x.row, die); got != slot {
				t.Errorf("P6.1: Slot(%d, %d, %d, %d) = %d, not %d", mask, x.block, x.row, die, got, slot)
			}
		}
		for _, die := range []int{x.parity, 1, 4, 6, 7, 8, -1} {
			if got := Slot(mask, x.block, x.row, die); got != -1 {
				t.Errorf("P6.1: Slot(%d, %d, %d, %d) = %d, not -1", mask, x.block, x.row, die, got)
			}
		}
		for _, slot := range []int{-1, 3, 4} {
			if got := Die(mask, x.block, x.row, slot); got != -1 {
				t.Errorf("P6.1: Die(%d, %d, %d, %d) = %d, not -1", mask, x.block, x.row, slot, got)
			}
		}
	}
}

func TestEachRow(t *testing.T) {
	for _, mask := range masks() {
		for block := range 16 {
			for row := range 9 {
				checkRow(t, mask, block, row)
			}
		}
	}
}

// TestHugeRows holds P0.6: the sum of block and row doesn't wrap.
func TestHugeRows(t *testing.T) {
	for _, mask := range masks() {
		for _, n := range huge() {
			for _, k := range append(huge(), 0, 1, 2) {
				checkRow(t, mask, n, k)
				checkRow(t, mask, k, n)
			}
		}
	}
}

func TestWrongRows(t *testing.T) {
	for _, mask := range masks() {
		for _, n := range negative() {
			// With k = -n the sum is a row's, but n is none.
			for _, k := range []int{0, 1, 7, math.MaxInt, n, -n} {
				checkNoRow(t, mask, n, k)
				checkNoRow(t, mask, k, n)
			}
		}
	}
}

func TestWrongMasks(t *testing.T) {
	for _, mask := range noMasks() {
		if got := Slots(mask); got != 0 {
			t.Errorf("P6.1: Slots(%d) = %d, not 0", mask, got)
		}
		for _, block := range []int{0, 1, 7, math.MaxInt, -1, math.MinInt} {
			for _, row := range []int{0, 1, 5, math.MaxInt, -1, math.MinInt} {
				checkNoRow(t, mask, block, row)
			}
		}
	}
}

// TestWrongSlotsAndDies asks of rows that are for what they can't have.
func TestWrongSlotsAndDies(t *testing.T) {
	wrong := append(negative(), huge()...)
	wrong = append(wrong, 8, 9, 31, 32, 63, 64, 65, 128, 255, 256, 257, 1<<32, 1<<32+2)
	for _, mask := range masks() {
		for _, n := range wrong {
			for row := range 9 {
				if got := Die(mask, 3, row, n); got != -1 {
					t.Errorf("P6.1: Die(%d, 3, %d, %d) = %d, not -1", mask, row, n, got)
				}
				if got := Slot(mask, 3, row, n); got != -1 {
					t.Errorf("P6.1: Slot(%d, 3, %d, %d) = %d, not -1", mask, row, n, got)
				}
			}
		}
	}
}

// TestTurns: over as many rows as a block's dies each of them has the parity once.
func TestTurns(t *testing.T) {
	for _, mask := range masks() {
		l := dies(mask)
		for block := range 16 {
			turns := []int{}
			for row := range l {
				turns = append(turns, Parity(mask, block, row))
			}
			slices.Sort(turns)
			if !slices.Equal(turns, l) {
				t.Errorf("P6.1: mask %d, block %d: parities on %v", mask, block, turns)
			}
		}
	}
}

// TestAnyArguments holds P0.1 and P0.5: no call panics, and the same one, after others, answers the same.
func TestAnyArguments(t *testing.T) {
	type question struct{ a, b, c, d int }
	type answers struct {
		may, in                           bool
		parity, slots, die, slot, logical int
	}
	ask := func(q question) answers {
		g := api.Geo{Dies: q.a, Blocks: q.b, Pages: q.c}
		a := api.Addr{Die: q.b, Block: q.c, Page: q.d}
		return answers{May(g), In(g, a), Parity(q.a, q.b, q.c), Slots(q.a), Die(q.a, q.b, q.c, q.d), Slot(q.a, q.b, q.c, q.d), Logical(g)}
	}
	l := []int{math.MinInt, math.MinInt + 1, -1 << 32, -256, -1, 0, 1, 2, 3, 5, 8, 63, 255, 256, 1 << 32, 1<<32 + 3, math.MaxInt - 1, math.MaxInt}
	first := make(map[question]answers)
	for _, a := range l {
		for _, b := range l {
			for _, c := range l {
				for _, d := range l {
					q := question{a, b, c, d}
					first[q] = ask(q)
				}
			}
		}
	}
	for q, want := range first {
		if got := ask(q); got != want {
			t.Errorf("P0.5: %v: %v, then %v", q, want, got)
		}
	}
}
