package calc_test

import (
	"bottomry/api"
	"bottomry/calc"
	"math"
	"math/big"
	"slices"
	"testing"
)

// edges are numbers about which sums and products go beyond an int, or just do not.
var edges = []int{
	math.MinInt, math.MinInt + 1, math.MinInt + 2, math.MinInt / 2, math.MinInt/2 - 1, -3037000500, -3037000499,
	-1 << 32, -1 << 31, -10000, -3, -2, -1, 0, 1, 2, 3, 7, 10000, 253921, 1 << 31, 1<<32 - 1, 1 << 32, 1<<32 + 1,
	3037000499, 3037000500, 1 << 40, 1 << 50, 1 << 60, 1 << 62, 145295143558111, math.MaxInt / 2,
	math.MaxInt - 2, math.MaxInt - 1, math.MaxInt,
}

// told is what is to be answered, if n comes of something.
func told(n *big.Int) (int, api.Errno) {
	if !n.IsInt64() {
		return 0, api.ErrOver
	}
	return int(n.Int64()), api.OK
}

func wide(n int) *big.Int { return big.NewInt(int64(n)) }

// scaled is what Scale is to answer, reckoned in as many words as it takes.
func scaled(a, b, c int, up bool) (int, api.Errno) {
	if a < 0 || b < 0 || c < 1 {
		return 0, api.ErrArg
	}
	whole, rest := new(big.Int).DivMod(new(big.Int).Mul(wide(a), wide(b)), wide(c), new(big.Int))
	if up && rest.Sign() > 0 {
		whole.Add(whole, wide(1))
	}
	return told(whole)
}

type binary struct {
	name string
	got  func(a, b int) (int, api.Errno)
	want func(z, a, b *big.Int) *big.Int
}

func binaries() []binary {
	return []binary{{"Add", calc.Add, (*big.Int).Add}, {"Sub", calc.Sub, (*big.Int).Sub}, {"Mul", calc.Mul, (*big.Int).Mul}}
}

// Ca1: each pair of edges, against numbers without bounds.
func TestCa1Edges(t *testing.T) {
	for _, f := range binaries() {
		for _, a := range edges {
			for _, b := range edges {
				n, e := f.got(a, b)
				want, err := told(f.want(new(big.Int), wide(a), wide(b)))
				if n != want || e != err {
					t.Errorf("%s(%d, %d) = %d, %d, want %d, %d", f.name, a, b, n, e, want, err)
				}
			}
		}
	}
}

// Ca1: each pair of small numbers.
func TestCa1Small(t *testing.T) {
	for _, f := range binaries() {
		for a := -20; a <= 20; a++ {
			for b := -20; b <= 20; b++ {
				want, _ := told(f.want(new(big.Int), wide(a), wide(b)))
				if n, e := f.got(a, b); n != want || e != api.OK {
					t.Errorf("%s(%d, %d) = %d, %d, want %d", f.name, a, b, n, e, want)
				}
			}
		}
	}
}

// Ca1: numbers that are written out, so that no helper of the tests is leaned on alone.
func TestCa1Written(t *testing.T) {
	l := binaries()
	for _, x := range []struct {
		of, a, b, n int
		e           api.Errno
	}{
		{0, 2, 3, 5, api.OK},
		{0, math.MaxInt, 1, 0, api.ErrOver},
		{0, math.MaxInt, 0, math.MaxInt, api.OK},
		{0, math.MinInt, -1, 0, api.ErrOver},
		{0, math.MinInt, math.MinInt, 0, api.ErrOver},
		{0, math.MinInt, math.MaxInt, -1, api.OK},
		{1, 2, 3, -1, api.OK},
		{1, 0, math.MinInt, 0, api.ErrOver},
		{1, -1, math.MinInt, math.MaxInt, api.OK},
		{1, math.MinInt, 1, 0, api.ErrOver},
		{1, math.MinInt, math.MinInt, 0, api.OK},
		{1, math.MaxInt, -1, 0, api.ErrOver},
		{2, -4, 5, -20, api.OK},
		{2, math.MinInt, 1, math.MinInt, api.OK},
		{2, math.MinInt, -1, 0, api.ErrOver},
		{2, -1, math.MinInt, 0, api.ErrOver},
		{2, math.MinInt, 0, 0, api.OK},
		{2, math.MaxInt, -1, -math.MaxInt, api.OK},
		{2, 1 << 32, -1 << 31, math.MinInt, api.OK},
		{2, 1 << 32, 1 << 31, 0, api.ErrOver},
		{2, 1 << 32, 1 << 32, 0, api.ErrOver},
		{2, -1 << 32, -1 << 31, 0, api.ErrOver},
		// Just one below the least int, and that one itself.
		{2, -3, 3074457345618258603, 0, api.ErrOver},
		{2, 2, math.MinInt / 2, math.MinInt, api.OK},
		{2, 3037000499, 3037000499, 9223372030926249001, api.OK},
		{2, 3037000500, 3037000500, 0, api.ErrOver},
	} {
		if n, e := l[x.of].got(x.a, x.b); n != x.n || e != x.e {
			t.Errorf("%s(%d, %d) = %d, %d, want %d, %d", l[x.of].name, x.a, x.b, n, e, x.n, x.e)
		}
	}
}

// Ca1: a sum counts also where only a sum on the way is none of an int.
func TestCa1Sum(t *testing.T) {
	for _, x := range []struct {
		l []int
		n int
		e api.Errno
	}{
		{nil, 0, api.OK},
		{[]int{}, 0, api.OK},
		{[]int{0}, 0, api.OK},
		{[]int{math.MinInt}, math.MinInt, api.OK},
		{[]int{math.MaxInt}, math.MaxInt, api.OK},
		{[]int{1, 2, 3, -10}, -4, api.OK},
		{[]int{math.MaxInt, -1, 1}, math.MaxInt, api.OK},
		{[]int{math.MaxInt, 1, -1}, 0, api.ErrOver},
		{[]int{-1, math.MaxInt, 1}, math.MaxInt, api.OK},
		{[]int{1, math.MaxInt, -1}, 0, api.ErrOver},
		{[]int{math.MinInt, 1, -1}, math.MinInt, api.OK},
		{[]int{math.MinInt, -1, 1}, 0, api.ErrOver},
		{[]int{5, 6, math.MaxInt}, 0, api.ErrOver},
		{[]int{math.MaxInt, math.MinInt, math.MaxInt, 1}, math.MaxInt, api.OK},
		{[]int{math.MaxInt, math.MaxInt, math.MinInt, math.MinInt, 2}, 0, api.ErrOver},
	} {
		if n, e := calc.Sum(x.l...); n != x.n || e != x.e {
			t.Errorf("Sum(%v) = %d, %d, want %d, %d", x.l, n, e, x.n, x.e)
		}
	}
	if n, e := calc.Sum(); n != 0 || e != api.OK {
		t.Errorf("Sum() = %d, %d", n, e)
	}
}

// Ca1: every list of three edges is summed as it is by Add, one behind the other.
func TestCa1SumEdges(t *testing.T) {
	for _, a := range edges {
		for _, b := range edges {
			for _, c := range edges {
				want, err := told(new(big.Int).Add(wide(a), wide(b)))
				if err == api.OK {
					want, err = told(new(big.Int).Add(wide(want), wide(c)))
				}
				if n, e := calc.Sum(a, b, c); n != want || e != err {
					t.Errorf("Sum(%d, %d, %d) = %d, %d, want %d, %d", a, b, c, n, e, want, err)
				}
			}
		}
	}
}

// R3: the list is not changed, and not read beyond its end.
func TestSumLeavesItsList(t *testing.T) {
	all := []int{4, -5, 6, math.MaxInt, 1}
	if n, e := calc.Sum(all[:3]...); n != 5 || e != api.OK {
		t.Errorf("Sum of a part = %d, %d", n, e)
	}
	calc.Sum(all...)
	if !slices.Equal(all, []int{4, -5, 6, math.MaxInt, 1}) {
		t.Errorf("Sum changed its list: %v", all)
	}
}

// Ca2: each three of edges, both ways, against numbers without bounds.
func TestCa2Edges(t *testing.T) {
	for _, a := range edges {
		for _, b := range edges {
			for _, c := range edges {
				for _, up := range []bool{false, true} {
					want, err := scaled(a, b, c, up)
					if n, e := calc.Scale(a, b, c, up); n != want || e != err {
						t.Errorf("Scale(%d, %d, %d, %v) = %d, %d, want %d, %d", a, b, c, up, n, e, want, err)
					}
				}
			}
		}
	}
}

// Ca2: numbers that are written out.
func TestCa2Written(t *testing.T) {
	const most = math.MaxInt
	for _, x := range []struct {
		a, b, c  int
		down, up int
		e, eup   api.Errno
	}{
		{7, 3, 2, 10, 11, api.OK, api.OK},
		{6, 3, 2, 9, 9, api.OK, api.OK},
		{0, 5, 9, 0, 0, api.OK, api.OK},
		{1, 1, most, 0, 1, api.OK, api.OK},
		{5, 5, 1, 25, 25, api.OK, api.OK},
		{most, most, most, most, most, api.OK, api.OK},
		{most, 1, 1, most, most, api.OK, api.OK},
		{most, 2, 2, most, most, api.OK, api.OK},
		{most, most, most - 1, 0, 0, api.ErrOver, api.ErrOver},
		{most, 2, 1, 0, 0, api.ErrOver, api.ErrOver},
		{most, most, 1, 0, 0, api.ErrOver, api.ErrOver},
		// A half above MaxInt: only rounded up it is beyond.
		{1<<32 - 1, 1<<32 + 1, 2, most, 0, api.OK, api.ErrOver},
		// A half below 2^64: rounded up it would be a word that is 0.
		{253921, 145295143558111, 2, 0, 0, api.ErrOver, api.ErrOver},
		{-1, 1, 1, 0, 0, api.ErrArg, api.ErrArg},
		{1, -1, 1, 0, 0, api.ErrArg, api.ErrArg},
		{-1, -1, 1, 0, 0, api.ErrArg, api.ErrArg},
		{-1, 0, 1, 0, 0, api.ErrArg, api.ErrArg},
		{1, 1, 0, 0, 0, api.ErrArg, api.ErrArg},
		{1, 1, -1, 0, 0, api.ErrArg, api.ErrArg},
		{most, most, 0, 0, 0, api.ErrArg, api.ErrArg},
		{most, most, math.MinInt, 0, 0, api.ErrArg, api.ErrArg},
		{math.MinInt, most, 1, 0, 0, api.ErrArg, api.ErrArg},
	} {
		if n, e := calc.Scale(x.a, x.b, x.c, false); n != x.down || e != x.e {
			t.Errorf("Scale(%d, %d, %d) down = %d, %d, want %d, %d", x.a, x.b, x.c, n, e, x.down, x.e)
		}
		if n, e := calc.Scale(x.a, x.b, x.c, true); n != x.up || e != x.eup {
			t.Errorf("Scale(%d, %d, %d) up = %d, %d, want %d, %d", x.a, x.b, x.c, n, e, x.up, x.eup)
		}
	}
}

// Ca3: rounded up it is as much, or one more: the latter just where something is left.
func TestCa3UpAndDown(t *testing.T) {
	for a := range 40 {
		for b := range 40 {
			for c := 1; c <= 40; c++ {
				down, e := calc.Scale(a, b, c, false)
				up, eup := calc.Scale(a, b, c, true)
				more := min(1, a*b%c)
				if e != api.OK || eup != api.OK || down != a*b/c || up != down+more {
					t.Fatalf("Scale(%d, %d, %d) = %d, %d down, %d, %d up", a, b, c, down, e, up, eup)
				}
			}
		}
	}
	for _, a := range edges {
		for _, b := range edges {
			for _, c := range edges {
				checkUp(t, a, b, c)
			}
		}
	}
}

// checkUp looks at both ways of one Scale: only MaxInt can be the last number that is told.
func checkUp(t *testing.T, a, b, c int) {
	t.Helper()
	down, e := calc.Scale(a, b, c, false)
	up, eup := calc.Scale(a, b, c, true)
	switch {
	case e != eup:
		if e != api.OK || eup != api.ErrOver || down != math.MaxInt {
			t.Errorf("Scale(%d, %d, %d): %d down, %d up", a, b, c, e, eup)
		}
	case e == api.OK && up != down && up-1 != down:
		t.Errorf("Scale(%d, %d, %d): %d down, %d up", a, b, c, down, up)
	}
}

// Ca3: of greater numbers it is no less; what is beyond an int is greater than all.
func TestCa3NoLess(t *testing.T) {
	l := slices.DeleteFunc(slices.Sorted(slices.Values(edges)), func(n int) bool { return n < 0 })
	for _, c := range l[1:] {
		for _, b := range l {
			for _, up := range []bool{false, true} {
				checkRises(t, l, func(a int) (int, api.Errno) { return calc.Scale(a, b, c, up) })
				checkRises(t, l, func(a int) (int, api.Errno) { return calc.Scale(b, a, c, up) })
			}
		}
	}
}

// checkRises goes over numbers that rise: what comes of them does not fall, and once it is beyond, it stays so.
func checkRises(t *testing.T, l []int, of func(int) (int, api.Errno)) {
	t.Helper()
	last, over := 0, false
	for _, x := range l {
		n, e := of(x)
		if e == api.OK && (over || n < last) || e != api.OK && e != api.ErrOver {
			t.Errorf("at %d: %d, %d behind %d, beyond: %v", x, n, e, last, over)
		}
		last, over = n, e == api.ErrOver
	}
}

// R4: asked twice, it is answered the same.
func TestAskedTwice(t *testing.T) {
	for _, x := range [][3]int{{7, 3, 2}, {math.MaxInt, 2, 1}, {-1, 0, 0}} {
		a, ea := calc.Scale(x[0], x[1], x[2], true)
		calc.Sum(x[:]...)
		b, eb := calc.Scale(x[0], x[1], x[2], true)
		if a != b || ea != eb {
			t.Errorf("Scale(%v) = %d, %d, then %d, %d", x, a, ea, b, eb)
		}
	}
}
