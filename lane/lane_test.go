package lane

import (
	"math"
	"slices"
	"testing"
)

// split is the dies of m, rising, by division, so that it shares no shift with what it checks.
func split(m int) []int {
	l := []int{}
	for die := range 8 {
		if m%2 == 1 {
			l = append(l, die)
		}
		m /= 2
	}
	return l
}

// joined is the set of dies, by sums.
func joined(dies []int) int {
	powers := [8]int{1, 2, 4, 8, 16, 32, 64, 128}
	m := 0
	for _, die := range dies {
		m += powers[die]
	}
	return m
}

// noSets are none of 0 to 255, some of them one only when cut to fewer bits.
func noSets() []int {
	l := []int{math.MinInt, math.MinInt + 1, math.MinInt + 255, math.MaxInt, math.MaxInt - 255, -1 << 32, -1<<32 + 7, 1<<32 + 7, -256, -255, -128}
	for k := 8; k < 63; k++ {
		l = append(l, 1<<k, 1<<k+7, 1<<k+255, -1<<k, -1<<k+7)
	}
	for m := 256; m < 600; m++ {
		l = append(l, m, 255-m)
	}
	return l
}

// noDies are none of 0 to 7, some of them one only when cut to fewer bits.
func noDies() []int {
	return []int{-1, -2, -7, -8, -63, -64, 8, 9, 15, 16, 31, 32, 33, 63, 64, 65, 71, 128, 255, 256, 1 << 31, 1 << 32, 1<<32 + 3, -1<<32 + 3, math.MinInt, math.MinInt + 3, math.MaxInt}
}

func TestAll(t *testing.T) {
	for dies, want := range []int{0, 1, 3, 7, 15, 31, 63, 127, 255} {
		if got := All(dies); got != want {
			t.Errorf("P4.1: All(%d) = %d, not %d", dies, got, want)
		}
	}
}

func TestAllWrongNumbers(t *testing.T) {
	for _, dies := range noDies() {
		if dies == 8 {
			continue
		}
		if got := All(dies); got != 0 {
			t.Errorf("P4.1: All(%d) = %d, not 0", dies, got)
		}
	}
}

func TestExamples(t *testing.T) {
	m := 0b00101101 // 0, 2, 3, 5
	if got := Count(m); got != 4 {
		t.Errorf("P4.1: Count(%d) = %d, not 4", m, got)
	}
	for die, want := range []struct {
		has           bool
		with, without int
		spot          int
	}{
		{true, 45, 44, 0},
		{false, 47, 45, -1},
		{true, 45, 41, 1},
		{true, 45, 37, 2},
		{false, 61, 45, -1},
		{true, 45, 13, 3},
		{false, 109, 45, -1},
		{false, 173, 45, -1},
	} {
		if got := Has(m, die); got != want.has {
			t.Errorf("P4.1: Has(%d, %d) = %v", m, die, got)
		}
		if got := With(m, die); got != want.with {
			t.Errorf("P4.1: With(%d, %d) = %d, not %d", m, die, got, want.with)
		}
		if got := Without(m, die); got != want.without {
			t.Errorf("P4.1: Without(%d, %d) = %d, not %d", m, die, got, want.without)
		}
		if got := Spot(m, die); got != want.spot {
			t.Errorf("P4.1: Spot(%d, %d) = %d, not %d", m, die, got, want.spot)
		}
	}
	for i, want := range []int{0, 2, 3, 5, -1, -1, -1, -1, -1} {
		if got := At(m, i); got != want {
			t.Errorf("P4.1: At(%d, %d) = %d, not %d", m, i, got, want)
		}
	}
}

func TestEmptyAndFull(t *testing.T) {
	for die := range 8 {
		if Has(0, die) || !Has(255, die) {
			t.Errorf("P4.1: die %d: in none %v, in all %v", die, Has(0, die), Has(255, die))
		}
		if At(0, die) != -1 || At(255, die) != die {
			t.Errorf("P4.1: %d: At of none %d, of all %d", die, At(0, die), At(255, die))
		}
		if Spot(0, die) != -1 || Spot(255, die) != die {
			t.Errorf("P4.1: die %d: Spot in none %d, in all %d", die, Spot(0, die), Spot(255, die))
		}
		if Without(0, die) != 0 || With(255, die) != 255 {
			t.Errorf("P4.1: die %d: none without it %d, all with it %d", die, Without(0, die), With(255, die))
		}
	}
	if Count(0) != 0 || Count(255) != 8 {
		t.Errorf("P4.1: Count of none %d, of all %d", Count(0), Count(255))
	}
}

func TestEachSet(t *testing.T) {
	for m := range 256 {
		dies := split(m)
		if got := Count(m); got != len(dies) {
			t.Errorf("P4.1: Count(%d) = %d, not %d", m, got, len(dies))
		}
		for die := range 8 {
			checkDie(t, m, die, dies)
		}
		for i := range 12 {
			want := -1
			if i < len(dies) {
				want = dies[i]
			}
			if got := At(m, i); got != want {
				t.Errorf("P4.1: At(%d, %d) = %d, not %d", m, i, got, want)
			}
		}
	}
}

// checkDie holds what m tells of die against m's dies.
func checkDie(t *testing.T, m, die int, dies []int) {
	t.Helper()
	spot := slices.Index(dies, die)
	if got := Has(m, die); got != (spot >= 0) {
		t.Errorf("P4.1: Has(%d, %d) = %v", m, die, got)
	}
	if got := Spot(m, die); got != spot {
		t.Errorf("P4.1: Spot(%d, %d) = %d, not %d", m, die, got, spot)
	}
	with, without := slices.Clone(dies), slices.Clone(dies)
	if spot >= 0 {
		without = slices.Delete(without, spot, spot+1)
	} else {
		with = append(with, die)
	}
	if got, want := With(m, die), joined(with); got != want {
		t.Errorf("P4.1: With(%d, %d) = %d, not %d", m, die, got, want)
	}
	if got, want := Without(m, die), joined(without); got != want {
		t.Errorf("P4.1: Without(%d, %d) = %d, not %d", m, die, got, want)
	}
}

func TestWrongDies(t *testing.T) {
	for m := range 256 {
		for _, die := range noDies() {
			if Has(m, die) {
				t.Errorf("P4.1: Has(%d, %d)", m, die)
			}
			if got := Spot(m, die); got != -1 {
				t.Errorf("P4.1: Spot(%d, %d) = %d, not -1", m, die, got)
			}
			if got := With(m, die); got != m {
				t.Errorf("P4.1: With(%d, %d) = %d, not %d", m, die, got, m)
			}
			if got := Without(m, die); got != m {
				t.Errorf("P4.1: Without(%d, %d) = %d, not %d", m, die, got, m)
			}
			// What no die is numbered by is beyond every set's last die, too.
			if got := At(m, die); got != -1 {
				t.Errorf("P4.1: At(%d, %d) = %d, not -1", m, die, got)
			}
		}
	}
}

// TestWrongSets: no set comes ahead of no die, in With and Without too.
func TestWrongSets(t *testing.T) {
	dies := noDies()
	for die := range 8 {
		dies = append(dies, die)
	}
	for _, m := range noSets() {
		if got := Count(m); got != 0 {
			t.Errorf("P4.1: Count(%d) = %d, not 0", m, got)
		}
		for _, die := range dies {
			if Has(m, die) {
				t.Errorf("P4.1: Has(%d, %d)", m, die)
			}
			if got := With(m, die); got != 0 {
				t.Errorf("P4.1: With(%d, %d) = %d, not 0", m, die, got)
			}
			if got := Without(m, die); got != 0 {
				t.Errorf("P4.1: Without(%d, %d) = %d, not 0", m, die, got)
			}
			if got := At(m, die); got != -1 {
				t.Errorf("P4.1: At(%d, %d) = %d, not -1", m, die, got)
			}
			if got := Spot(m, die); got != -1 {
				t.Errorf("P4.1: Spot(%d, %d) = %d, not -1", m, die, got)
			}
		}
	}
}

// TestAnyArguments holds P0.1 and P0.5: no call panics, and the same one, after others, answers the same.
func TestAnyArguments(t *testing.T) {
	type question struct{ m, k int }
	type answers struct {
		all           int
		has           bool
		with, without int
		count         int
		at, spot      int
	}
	ask := func(q question) answers {
		return answers{All(q.k), Has(q.m, q.k), With(q.m, q.k), Without(q.m, q.k), Count(q.m), At(q.m, q.k), Spot(q.m, q.k)}
	}
	ms, ks := noSets(), noDies()
	for n := range 256 {
		ms = append(ms, n)
	}
	for n := range 8 {
		ks = append(ks, n)
	}
	first := make(map[question]answers)
	for _, m := range ms {
		for _, k := range ks {
			q := question{m, k}
			first[q] = ask(q)
		}
	}
	for q, want := range first {
		if got := ask(q); got != want {
			t.Errorf("P0.5: %v: %v, then %v", q, want, got)
		}
	}
}
