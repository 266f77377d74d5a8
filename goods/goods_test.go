package goods_test

import (
	"bottomry/api"
	"bottomry/goods"
	"cmp"
	"math"
	"math/big"
	"math/rand/v2"
	"slices"
	"testing"
)

const most = api.MaxQty

// chance are numbers that are the same at each run.
func chance() *rand.Rand { return rand.New(rand.NewPCG(8, 23)) }

// of are stacks: a type, how many of it, and so on.
func of(n ...int) []api.Stack {
	var l []api.Stack
	for k := 0; k+1 < len(n); k += 2 {
		l = append(l, api.Stack{Type: n[k], Qty: n[k+1]})
	}
	return l
}

// pile is how many there are of a type, in numbers without bounds.
type pile struct {
	kind int
	n    *big.Int
}

// piles are how many there are of each type, by another hand: without maps, a type of which there are none too.
func piles(l []api.Stack) ([]pile, api.Errno) {
	if slices.ContainsFunc(l, func(s api.Stack) bool { return s.Type <= 0 || s.Qty <= -1 }) {
		return nil, api.ErrArg
	}
	s := slices.Clone(l)
	slices.SortFunc(s, func(a, b api.Stack) int { return cmp.Compare(a.Type, b.Type) })
	var p []pile
	for _, x := range s {
		if len(p) == 0 || p[len(p)-1].kind != x.Type {
			p = append(p, pile{x.Type, new(big.Int)})
		}
		n := p[len(p)-1].n
		n.Add(n, big.NewInt(int64(x.Qty)))
	}
	if over(p) {
		return nil, api.ErrOver
	}
	return p, api.OK
}

// over tells whether of one type there are too many.
func over(p []pile) bool {
	return slices.ContainsFunc(p, func(x pile) bool { return x.n.Cmp(big.NewInt(most)) > 0 })
}

// there is how many of a type there are in piles.
func there(p []pile, kind int) *big.Int {
	for _, x := range p {
		if x.kind == kind {
			return x.n
		}
	}
	return new(big.Int)
}

// stacks are the stacks of piles, or an error.
func stacks(p []pile, e api.Errno) ([]api.Stack, api.Errno) {
	if e != api.OK {
		return nil, e
	}
	if over(p) {
		return nil, api.ErrOver
	}
	var l []api.Stack
	for _, x := range p {
		if x.n.Sign() > 0 {
			l = append(l, api.Stack{Type: x.kind, Qty: int(x.n.Int64())})
		}
	}
	return l, api.OK
}

func norm(l []api.Stack) ([]api.Stack, api.Errno) { return stacks(piles(l)) }

func check(l []api.Stack, types int) api.Errno {
	n, e := norm(l)
	if e != api.OK || !slices.Equal(n, l) || len(l) > 8 {
		return api.ErrArg
	}
	for _, s := range l {
		if s.Type > types {
			return api.ErrArg
		}
	}
	return api.OK
}

func add(a, b []api.Stack) ([]api.Stack, api.Errno) {
	if _, e := norm(a); e != api.OK {
		return nil, e
	}
	if _, e := norm(b); e != api.OK {
		return nil, e
	}
	return norm(slices.Concat(a, b))
}

func sub(a, b []api.Stack) ([]api.Stack, api.Errno) {
	p, e := piles(a)
	if e != api.OK {
		return nil, e
	}
	q, e := piles(b)
	if e != api.OK {
		return nil, e
	}
	for _, x := range q {
		if there(p, x.kind).Cmp(x.n) < 0 {
			return nil, api.ErrItems
		}
	}
	for k, x := range p {
		p[k].n = new(big.Int).Sub(x.n, there(q, x.kind))
	}
	return stacks(p, api.OK)
}

func times(l []api.Stack, n int) ([]api.Stack, api.Errno) {
	p, e := piles(l)
	if e != api.OK {
		return nil, e
	}
	if n <= -1 {
		return nil, api.ErrArg
	}
	for k, x := range p {
		p[k].n = new(big.Int).Mul(x.n, big.NewInt(int64(n)))
	}
	return stacks(p, api.OK)
}

func count(l []api.Stack, kind int) int {
	p, _ := piles(l)
	return int(there(p, kind).Int64())
}

func size(l []api.Stack) (int, api.Errno) {
	p, e := piles(l)
	if e != api.OK {
		return 0, e
	}
	sum := new(big.Int)
	for _, x := range p {
		sum.Add(sum, x.n)
	}
	if !sum.IsInt64() {
		return 0, api.ErrOver
	}
	return int(sum.Int64()), api.OK
}

// lists are all lists of up to so many stacks, of some types and numbers.
func lists(long int, types, numbers []int) [][]api.Stack {
	all := [][]api.Stack{nil}
	last := all
	for range long {
		var next [][]api.Stack
		for _, l := range last {
			for _, kind := range types {
				for _, n := range numbers {
					next = append(next, append(slices.Clone(l), api.Stack{Type: kind, Qty: n}))
				}
			}
		}
		all = append(all, next...)
		last = next
	}
	return all
}

// edges are lists of up to two stacks at the edges, good ones and wrong ones.
func edges() [][]api.Stack {
	types := []int{math.MinInt, -1, 0, 1, 2, math.MaxInt}
	numbers := []int{math.MinInt, -1, 0, 1, 2, most - 1, most, most + 1, math.MaxInt}
	return lists(2, types, numbers)
}

// lines are more lists: longer ones, in which types stand more than once, and in no order.
func lines() [][]api.Stack {
	return [][]api.Stack{
		of(3, 1, 1, 2, 3, 4, 2, 0),
		of(2, 5, 1, 1, 2, 3),
		of(5, 1, 4, 2, 3, 3, 2, 4, 1, 5),
		of(1, most/2, 2, 7, 1, most/2),
		of(1, most/2, 2, 7, 1, most/2, 1, 1),
		of(1, most, 2, most, 3, most),
		of(1, math.MaxInt, 1, math.MaxInt, 1, 2),
		of(1, math.MaxInt, 1, 1, 2, -1),
		of(32, 1, 32, 0, 33, 1, 31, 0),
		of(1, 1, 1, 1, 1, 1, 1, 1, 1, 1, 1, 1, 1, 1, 1, 1, 1, 1),
	}
}

// same looks at a list of stacks and an error; beside an error the list is to be empty.
func same(t *testing.T, what string, about any, l []api.Stack, e api.Errno, want []api.Stack, err api.Errno) {
	t.Helper()
	if !slices.Equal(l, want) || e != err {
		t.Errorf("%s of %v: %v, %d, want %v, %d", what, about, l, e, want, err)
	}
}

// good is a list of stacks that came without an error.
func good(t *testing.T) func([]api.Stack, api.Errno) []api.Stack {
	return func(l []api.Stack, e api.Errno) []api.Stack {
		t.Helper()
		if e != api.OK {
			t.Fatalf("answered the error %d", e)
		}
		return l
	}
}

// chosen are some stacks by chance, of which sums stay below what may be.
func chosen(r *rand.Rand, long, types int) []api.Stack {
	var l []api.Stack
	for range r.IntN(long + 1) {
		l = append(l, api.Stack{Type: 1 + r.IntN(types), Qty: r.IntN(1 << r.IntN(20))})
	}
	return l
}

// Go1: Norm, in words that are written out.
func TestGo1NormWritten(t *testing.T) {
	for _, x := range []struct {
		l, want []api.Stack
		e       api.Errno
	}{
		{nil, nil, api.OK},
		{[]api.Stack{}, nil, api.OK},
		{of(2, 5, 1, 1, 2, 3), of(1, 1, 2, 8), api.OK},
		{of(3, 1, 1, 2, 3, 4, 2, 0), of(1, 2, 3, 5), api.OK},
		{of(1, 0), nil, api.OK},
		{of(1, 0, 1, 0, 2, 0), nil, api.OK},
		{of(1, 0, 1, 3), of(1, 3), api.OK},
		{of(math.MaxInt, 1, 1, 1), of(1, 1, math.MaxInt, 1), api.OK},
		{of(7, most), of(7, most), api.OK},
		{of(7, most-1, 7, 1), of(7, most), api.OK},
		{of(7, most, 7, 0), of(7, most), api.OK},
		{of(8, most, 7, most), of(7, most, 8, most), api.OK},
		{of(10, 1, 9, 1, 100, 1, 11, 1), of(9, 1, 10, 1, 11, 1, 100, 1), api.OK},
		{of(0, 1), nil, api.ErrArg},
		{of(0, 0), nil, api.ErrArg},
		{of(-1, 1), nil, api.ErrArg},
		{of(math.MinInt, 1), nil, api.ErrArg},
		{of(1, -1), nil, api.ErrArg},
		{of(1, math.MinInt), nil, api.ErrArg},
		// What is below 0 is not made good by what is above.
		{of(1, 5, 1, -1), nil, api.ErrArg},
		{of(1, -1, 1, 5), nil, api.ErrArg},
		{of(7, most+1), nil, api.ErrOver},
		{of(7, most, 7, 1), nil, api.ErrOver},
		{of(7, 1, 8, 1, 7, most), nil, api.ErrOver},
		{of(7, math.MaxInt), nil, api.ErrOver},
		// Sums that would be small again, if numbers went round.
		{of(7, math.MaxInt, 7, math.MaxInt, 7, 2), nil, api.ErrOver},
		{of(7, math.MaxInt, 7, math.MaxInt, 7, 5), nil, api.ErrOver},
		// ErrArg is named first, wherever the stack stands that may not be.
		{of(7, most+1, 0, 1), nil, api.ErrArg},
		{of(0, 1, 7, most+1), nil, api.ErrArg},
		{of(7, most+1, 8, -1), nil, api.ErrArg},
		{of(7, most, 7, 1, 7, -1), nil, api.ErrArg},
		{of(0, most+1), nil, api.ErrArg},
	} {
		l, e := goods.Norm(x.l)
		same(t, "Norm", x.l, l, e, x.want, x.e)
	}
}

// Go1: Norm at all edges, of up to two stacks; of three, with fewer numbers.
func TestGo1NormEdges(t *testing.T) {
	three := lists(3, []int{0, 1, 2, 3}, []int{-1, 0, 1, most - 1, most, most + 1})
	for _, l := range slices.Concat(edges(), three, lines()) {
		n, e := goods.Norm(l)
		want, err := norm(l)
		same(t, "Norm", l, n, e, want, err)
	}
}

// Go1: what Norm tells is normal, and stays as it is.
func TestGo1NormAgain(t *testing.T) {
	r := chance()
	for range 300 {
		l := good(t)(goods.Norm(chosen(r, 40, 15)))
		for k, s := range l {
			if s.Type < 1 || s.Qty < 1 || k > 0 && l[k-1].Type >= s.Type {
				t.Fatalf("not normal: %v", l)
			}
		}
		again, e := goods.Norm(l)
		same(t, "Norm", l, again, e, l, api.OK)
	}
}

// Go1: Check, in words that are written out.
func TestGo1CheckWritten(t *testing.T) {
	eight := of(1, 1, 2, 1, 3, 1, 4, 1, 5, 1, 6, 1, 7, 1, 8, 1)
	for _, x := range []struct {
		l     []api.Stack
		types int
		e     api.Errno
	}{
		{nil, 0, api.OK},
		{[]api.Stack{}, 0, api.OK},
		{nil, math.MinInt, api.OK}, // none of them is above
		{of(1, 1, 3, most), 3, api.OK},
		{of(3, 1), 3, api.OK},
		{of(3, 1), math.MaxInt, api.OK},
		{of(math.MaxInt, 1), math.MaxInt, api.OK},
		{of(1, most), 1, api.OK},
		{of(2, most, 3, most), 3, api.OK},
		{eight, 8, api.OK},
		{eight, 32, api.OK},
		{eight, 7, api.ErrArg},
		{append(slices.Clone(eight), api.Stack{Type: 9, Qty: 1}), 32, api.ErrArg},
		{append(slices.Clone(eight), api.Stack{Type: 8, Qty: 0}), 32, api.ErrArg},
		{of(4, 1), 3, api.ErrArg},
		{of(1, 1, 4, 1), 3, api.ErrArg},
		{of(1, 1), 0, api.ErrArg},
		{of(1, 1), -1, api.ErrArg},
		{of(1, 1), math.MinInt, api.ErrArg},
		{of(2, 1, 1, 1), 3, api.ErrArg},
		{of(1, 1, 1, 1), 3, api.ErrArg},
		{of(1, 1, 3, 1, 2, 1), 3, api.ErrArg},
		{of(1, 0), 3, api.ErrArg},
		{of(1, 1, 2, 0), 3, api.ErrArg},
		{of(1, -1), 3, api.ErrArg},
		{of(1, math.MinInt), 3, api.ErrArg},
		{of(1, most+1), 3, api.ErrArg},
		{of(1, math.MaxInt), 3, api.ErrArg},
		{of(0, 1), 3, api.ErrArg},
		{of(-1, 1), 3, api.ErrArg},
		{of(math.MinInt, 1), 3, api.ErrArg},
		{of(0, 1, 1, 1), 3, api.ErrArg},
	} {
		if e := goods.Check(x.l, x.types); e != x.e {
			t.Errorf("Check(%v, %d) = %d, want %d", x.l, x.types, e, x.e)
		}
	}
}

// Go1: Check at all edges, and of lists of each length about the bound.
func TestGo1CheckEdges(t *testing.T) {
	all := slices.Concat(edges(), lines(), lists(3, []int{0, 1, 2, 3}, []int{0, 1, most + 1}))
	for n := range 12 {
		var l []api.Stack
		for kind := range n {
			l = append(l, api.Stack{Type: 2*kind + 1, Qty: kind + 1})
		}
		all = append(all, l)
	}
	for _, l := range all {
		for _, types := range []int{math.MinInt, -1, 0, 1, 2, 3, 14, 15, 16, 17, 32, math.MaxInt - 1, math.MaxInt} {
			if e := goods.Check(l, types); e != check(l, types) {
				t.Errorf("Check(%v, %d) = %d", l, types, e)
			}
		}
	}
}

// Go2: Add and Sub, in words that are written out.
func TestGo2Written(t *testing.T) {
	for _, x := range []struct {
		a, b, sum, rest []api.Stack
		esum, erest     api.Errno
	}{
		{nil, nil, nil, nil, api.OK, api.OK},
		{of(1, 5), nil, of(1, 5), of(1, 5), api.OK, api.OK},
		{of(2, 5, 1, 1, 2, 0, 3, 0), nil, of(1, 1, 2, 5), of(1, 1, 2, 5), api.OK, api.OK},
		{nil, of(1, 5), of(1, 5), nil, api.OK, api.ErrItems},
		{nil, of(1, 0), nil, nil, api.OK, api.OK},
		{of(1, 5), of(2, 0), of(1, 5), of(1, 5), api.OK, api.OK},
		{of(1, 5, 2, 2), of(2, 2, 1, 1), of(1, 6, 2, 4), of(1, 4), api.OK, api.OK},
		{of(1, 5), of(1, 5), of(1, 10), nil, api.OK, api.OK},
		{of(1, 5), of(1, 6), of(1, 11), nil, api.OK, api.ErrItems},
		{of(1, 5), of(2, 1), of(1, 5, 2, 1), nil, api.OK, api.ErrItems},
		// There are enough of one type, of the other one there are not.
		{of(1, 5, 2, 1), of(1, 1, 2, 2), of(1, 6, 2, 3), nil, api.OK, api.ErrItems},
		{of(1, 1, 2, 5), of(1, 2, 2, 1), of(1, 3, 2, 6), nil, api.OK, api.ErrItems},
		// All of one type are taken together, wherever they stand.
		{of(1, 2, 2, 1, 1, 3), of(1, 1, 1, 4), of(1, 10, 2, 1), of(2, 1), api.OK, api.OK},
		{of(1, 2, 1, 3), of(1, 3, 1, 3), of(1, 11), nil, api.OK, api.ErrItems},
		{of(1, most), of(1, 1), nil, of(1, most-1), api.ErrOver, api.OK},
		{of(1, 1), of(1, most), nil, nil, api.ErrOver, api.ErrItems},
		{of(1, most-1), of(1, 1), of(1, most), of(1, most-2), api.OK, api.OK},
		{of(1, most), of(1, most), nil, nil, api.ErrOver, api.OK},
		{of(1, most), of(2, most), of(1, most, 2, most), nil, api.OK, api.ErrItems},
		{of(0, 1), of(1, 1), nil, nil, api.ErrArg, api.ErrArg},
		{of(1, 1), of(0, 1), nil, nil, api.ErrArg, api.ErrArg},
		{of(1, 1), of(1, -1), nil, nil, api.ErrArg, api.ErrArg},
		{of(1, -1), of(1, 1), nil, nil, api.ErrArg, api.ErrArg},
		{of(1, most+1), nil, nil, nil, api.ErrOver, api.ErrOver},
		{nil, of(1, most+1), nil, nil, api.ErrOver, api.ErrOver},
		{of(1, most, 1, 1), of(1, 1), nil, nil, api.ErrOver, api.ErrOver},
		{of(1, 1), of(1, most, 1, 1), nil, nil, api.ErrOver, api.ErrOver},
		// The error of the first list is named ahead of the second one's.
		{of(1, most+1), of(0, 1), nil, nil, api.ErrOver, api.ErrOver},
		{of(0, 1), of(1, most+1), nil, nil, api.ErrArg, api.ErrArg},
		{of(1, math.MaxInt), of(1, math.MaxInt), nil, nil, api.ErrOver, api.ErrOver},
	} {
		l, e := goods.Add(x.a, x.b)
		same(t, "Add", [][]api.Stack{x.a, x.b}, l, e, x.sum, x.esum)
		l, e = goods.Sub(x.a, x.b)
		same(t, "Sub", [][]api.Stack{x.a, x.b}, l, e, x.rest, x.erest)
	}
}

// Go2: Add and Sub of each two lists at the edges.
func TestGo2AddSubEdges(t *testing.T) {
	all := append(lists(2, []int{0, 1, 2}, []int{-1, 0, 1, 2, most - 1, most, most + 1}), lines()...)
	for _, a := range all {
		for _, b := range all {
			l, e := goods.Add(a, b)
			want, err := add(a, b)
			same(t, "Add", [][]api.Stack{a, b}, l, e, want, err)
			l, e = goods.Sub(a, b)
			want, err = sub(a, b)
			same(t, "Sub", [][]api.Stack{a, b}, l, e, want, err)
		}
	}
}

// Go2: Times, in words that are written out.
func TestGo2TimesWritten(t *testing.T) {
	for _, x := range []struct {
		l    []api.Stack
		n    int
		want []api.Stack
		e    api.Errno
	}{
		{nil, 0, nil, api.OK},
		{nil, math.MaxInt, nil, api.OK},
		{of(1, 5), 0, nil, api.OK},
		{of(1, most), 0, nil, api.OK},
		{of(2, 2, 1, 5, 2, 1), 1, of(1, 5, 2, 3), api.OK},
		{of(1, 5, 2, 2), 3, of(1, 15, 2, 6), api.OK},
		{of(2, 2, 1, 5, 2, 1), 3, of(1, 15, 2, 9), api.OK},
		{of(1, 0), math.MaxInt, nil, api.OK},
		{of(1, 0, 2, 1), 7, of(2, 7), api.OK},
		{of(1, 1), most, of(1, most), api.OK},
		{of(1, 1), most + 1, nil, api.ErrOver},
		{of(1, 1), math.MaxInt, nil, api.ErrOver},
		{of(1, most), 1, of(1, most), api.OK},
		{of(1, most), 2, nil, api.ErrOver},
		{of(1, most/2), 2, of(1, most), api.OK},
		{of(1, most/2+1), 2, nil, api.ErrOver},
		{of(1, 1<<30), 1 << 20, of(1, most), api.OK},
		{of(1, 1<<30), 1 << 21, nil, api.ErrOver},
		{of(1, 1, 2, 1<<30), 1 << 21, nil, api.ErrOver},
		{of(1, 1<<30, 2, 1), 1 << 21, nil, api.ErrOver},
		// Products that would be 0, or small, if numbers went round.
		{of(1, most), 1 << 14, nil, api.ErrOver},
		{of(1, most), 1 << 13, nil, api.ErrOver},
		{of(1, 1<<32), 1 << 32, nil, api.ErrOver},
		{of(1, 3), 6148914691236517206, nil, api.ErrOver},
		{of(1, 5), 3689348814741910324, nil, api.ErrOver},
		{nil, -1, nil, api.ErrArg},
		{of(1, 5), -1, nil, api.ErrArg},
		{of(1, 0), -1, nil, api.ErrArg},
		{of(1, 5), math.MinInt, nil, api.ErrArg},
		{of(0, 1), 1, nil, api.ErrArg},
		{of(0, 1), 0, nil, api.ErrArg},
		{of(1, -1), 0, nil, api.ErrArg},
		// Norm's error is named first, also where nothing would come of it.
		{of(1, most+1), 0, nil, api.ErrOver},
		{of(1, most+1), -1, nil, api.ErrOver},
		{of(1, most, 1, 1), math.MinInt, nil, api.ErrOver},
	} {
		l, e := goods.Times(x.l, x.n)
		same(t, "Times", []any{x.l, x.n}, l, e, x.want, x.e)
	}
}

// Go2: Times of all edges, so many times as there are edges.
func TestGo2TimesEdges(t *testing.T) {
	ns := []int{
		math.MinInt, -most, -2, -1, 0, 1, 2, 3, 1 << 13, 1 << 14, most / 2, most - 1, most, most + 1,
		1 << 62, 1<<62 + 1, math.MaxInt / 2, math.MaxInt - 1, math.MaxInt,
	}
	more := lists(1, []int{1}, []int{3, 5, 1 << 13, 1 << 14, 1 << 25, 1 << 32, most / 3, most/3 + 1, most/2 - 1, most / 2, most/2 + 1})
	for _, l := range slices.Concat(edges(), lines(), more) {
		for _, n := range ns {
			got, e := goods.Times(l, n)
			want, err := times(l, n)
			same(t, "Times", []any{l, n}, got, e, want, err)
		}
	}
}

// Go2: Count and Size, in words that are written out.
func TestGo2CountSizeWritten(t *testing.T) {
	for _, x := range []struct {
		l       []api.Stack
		kind, n int
		size    int
		e       api.Errno
	}{
		{nil, 1, 0, 0, api.OK},
		{of(1, 0), 1, 0, 0, api.OK},
		{of(2, 5, 1, 1, 2, 3), 2, 8, 9, api.OK},
		{of(2, 5, 1, 1, 2, 3), 1, 1, 9, api.OK},
		{of(2, 5, 1, 1, 2, 3), 3, 0, 9, api.OK},
		{of(2, 5, 1, 1, 2, 3), 0, 0, 9, api.OK},
		{of(2, 5), -2, 0, 5, api.OK},
		{of(2, 5), math.MinInt, 0, 5, api.OK},
		{of(math.MaxInt, 5), math.MaxInt, 5, 5, api.OK},
		{of(1, most, 2, most, 3, 1), 2, most, 2*most + 1, api.OK},
		// What Norm refuses has nothing, also of types that are well.
		{of(1, 5, 0, 1), 1, 0, 0, api.ErrArg},
		{of(1, 5, 2, -1), 1, 0, 0, api.ErrArg},
		{of(1, 5, 0, 7), 0, 0, 0, api.ErrArg},
		{of(-3, 7), -3, 0, 0, api.ErrArg},
		{of(1, 5, 1, -1), 1, 0, 0, api.ErrArg},
		{of(1, 5, 2, most+1), 1, 0, 0, api.ErrOver},
		{of(1, most, 1, 1), 1, 0, 0, api.ErrOver},
		{of(1, most, 1, 1, 0, 1), 1, 0, 0, api.ErrArg},
	} {
		if n := goods.Count(x.l, x.kind); n != x.n {
			t.Errorf("Count(%v, %d) = %d, want %d", x.l, x.kind, n, x.n)
		}
		if n, e := goods.Size(x.l); n != x.size || e != x.e {
			t.Errorf("Size(%v) = %d, %d, want %d, %d", x.l, n, e, x.size, x.e)
		}
	}
}

// Go2: Count and Size at all edges.
func TestGo2CountSizeEdges(t *testing.T) {
	for _, l := range slices.Concat(edges(), lines(), lists(3, []int{0, 1, 2}, []int{-1, 0, 1, 5, most, most + 1})) {
		for _, kind := range []int{math.MinInt, -1, 0, 1, 2, 3, 31, 32, 33, math.MaxInt} {
			if n := goods.Count(l, kind); n != count(l, kind) {
				t.Errorf("Count(%v, %d) = %d, want %d", l, kind, n, count(l, kind))
			}
		}
		want, err := size(l)
		if n, e := goods.Size(l); n != want || e != err {
			t.Errorf("Size(%v) = %d, %d, want %d, %d", l, n, e, want, err)
		}
	}
}

// Go2: Size of so many types that the sum is just an int, or just none; it does not go round.
func TestGo2SizeBeyond(t *testing.T) {
	var l []api.Stack
	for kind := range 1<<13 - 1 {
		l = append(l, api.Stack{Type: kind + 1, Qty: most})
	}
	last := api.Stack{Type: 1 << 13, Qty: most - 1}
	if n, e := goods.Size(append(slices.Clone(l), last)); n != math.MaxInt || e != api.OK {
		t.Errorf("Size just below: %d, %d", n, e)
	}
	last.Qty = most
	l = append(l, last)
	if n, e := goods.Size(l); n != 0 || e != api.ErrOver {
		t.Errorf("Size just above: %d, %d", n, e)
	}
	if n, e := goods.Size(append(l, of(0, 1)...)); n != 0 || e != api.ErrArg {
		t.Errorf("Size above, with a wrong stack: %d, %d", n, e)
	}
}

// Go1, Go2: lists by chance, of many stacks, against another hand.
func TestGo2Chance(t *testing.T) {
	r := chance()
	for range 2000 {
		types := 1 + r.IntN(20)
		a, b := chosen(r, 60, types), chosen(r, 20, types)
		l, e := goods.Norm(a)
		want, err := norm(a)
		same(t, "Norm", a, l, e, want, err)
		l, e = goods.Add(a, b)
		want, err = add(a, b)
		same(t, "Add", [][]api.Stack{a, b}, l, e, want, err)
		l, e = goods.Sub(a, b)
		want, err = sub(a, b)
		same(t, "Sub", [][]api.Stack{a, b}, l, e, want, err)
		n := r.IntN(1 << r.IntN(40))
		l, e = goods.Times(a, n)
		want, err = times(a, n)
		same(t, "Times", []any{a, n}, l, e, want, err)
	}
}

// Go3: what is added is taken away again, and what is taken away is added.
func TestGo3Back(t *testing.T) {
	r := chance()
	for range 500 {
		a, b := chosen(r, 12, 6), chosen(r, 12, 6)
		na, nb := good(t)(goods.Norm(a)), good(t)(goods.Norm(b))
		sum := good(t)(goods.Add(a, b))
		l, e := goods.Sub(sum, b)
		same(t, "Sub of Add", [][]api.Stack{a, b}, l, e, na, api.OK)
		l, e = goods.Sub(sum, a)
		same(t, "Sub of Add", [][]api.Stack{b, a}, l, e, nb, api.OK)
		rest, e := goods.Sub(a, b)
		if e == api.OK {
			l, e = goods.Add(rest, b)
			same(t, "Add of Sub", [][]api.Stack{a, b}, l, e, na, api.OK)
		} else if len(rest) > 0 || e != api.ErrItems {
			t.Errorf("Sub of %v, %v: %v, %d", a, b, rest, e)
		}
	}
}

// Go3: the order does not matter: of two lists, of three, and of the stacks in one.
func TestGo3Order(t *testing.T) {
	r := chance()
	for range 500 {
		a, b, c := chosen(r, 8, 6), chosen(r, 8, 6), chosen(r, 8, 6)
		ab, ba := good(t)(goods.Add(a, b)), good(t)(goods.Add(b, a))
		bc := good(t)(goods.Add(b, c))
		if !slices.Equal(ab, ba) {
			t.Errorf("Add of %v, %v: %v, the other way %v", a, b, ab, ba)
		}
		if l, m := good(t)(goods.Add(ab, c)), good(t)(goods.Add(a, bc)); !slices.Equal(l, m) {
			t.Errorf("Add of %v, %v, %v: %v and %v", a, b, c, l, m)
		}
		mixed := slices.Clone(a)
		r.Shuffle(len(mixed), func(i, k int) { mixed[i], mixed[k] = mixed[k], mixed[i] })
		if l, m := good(t)(goods.Norm(a)), good(t)(goods.Norm(mixed)); !slices.Equal(l, m) {
			t.Errorf("Norm of %v: %v, of %v: %v", a, l, mixed, m)
		}
	}
}

// Go3: errors do not hang on the order of the stacks either.
func TestGo3OrderOfErrors(t *testing.T) {
	r := chance()
	for _, x := range []struct {
		l []api.Stack
		e api.Errno
	}{
		{of(3, most, 1, 4, 3, 1, 2, -1, 5, 6), api.ErrArg},
		{of(3, most, 1, 4, 3, 1, 2, 1, 5, 6), api.ErrOver},
	} {
		for range 200 {
			r.Shuffle(len(x.l), func(i, k int) { x.l[i], x.l[k] = x.l[k], x.l[i] })
			n, e := goods.Norm(x.l)
			same(t, "Norm", x.l, n, e, nil, x.e)
		}
	}
}

// Go3: a list n and m times is one as often as both together.
func TestGo3Times(t *testing.T) {
	r := chance()
	for range 500 {
		l, n, m := chosen(r, 8, 6), r.IntN(1000), r.IntN(1000)
		ln, lm := good(t)(goods.Times(l, n)), good(t)(goods.Times(l, m))
		sum, e := goods.Add(ln, lm)
		both := good(t)(goods.Times(l, n+m))
		same(t, "Add of Times", []any{l, n, m}, sum, e, both, api.OK)
		one, e := goods.Times(l, 1)
		same(t, "Times 1", l, one, e, good(t)(goods.Norm(l)), api.OK)
		// One by one it comes to the same.
		var each []api.Stack
		for range n % 10 {
			each = good(t)(goods.Add(each, l))
		}
		few, e := goods.Times(l, n%10)
		same(t, "Times", []any{l, n % 10}, few, e, each, api.OK)
	}
	// What is just too much together is told so either way.
	a, b := good(t)(goods.Times(of(1, 1), most)), of(1, 1)
	if l, e := goods.Add(a, b); len(l) > 0 || e != api.ErrOver {
		t.Errorf("Add: %v, %d", l, e)
	}
	if l, e := goods.Times(b, most+1); len(l) > 0 || e != api.ErrOver {
		t.Errorf("Times: %v, %d", l, e)
	}
}

// Go3: how many there are of each type, and in all, goes with what is added and taken.
func TestGo3Counts(t *testing.T) {
	r := chance()
	for range 300 {
		a, b := chosen(r, 12, 5), chosen(r, 12, 5)
		sum := good(t)(goods.Add(a, b))
		all := 0
		for kind := range 7 {
			n := goods.Count(sum, kind)
			if n != goods.Count(a, kind)+goods.Count(b, kind) {
				t.Errorf("Count of %d in %v, %v: %d", kind, a, b, n)
			}
			all += n
		}
		if n, e := goods.Size(sum); n != all || e != api.OK {
			t.Errorf("Size of %v: %d, %d, want %d", sum, n, e, all)
		}
	}
}

// R3: lists are not changed, and neither they nor what lies behind their ends are read beyond them.
func TestListsAreLeft(t *testing.T) {
	wide := of(3, 1, 1, 2, 3, 4, 2, 0, 0, -1, 1, most+1)
	ahead := slices.Clone(wide)
	for n := range 5 {
		l := wide[:n]
		calls(l, l)
		calls(l, wide[1:2])
		if !slices.Equal(wide, ahead) {
			t.Fatalf("behind calls on %v there is %v", l, wide)
		}
		got, e := goods.Norm(l)
		want, err := norm(ahead[:n:n])
		same(t, "Norm", l, got, e, want, err)
		got, e = goods.Add(l, l)
		want, err = add(ahead[:n:n], ahead[:n:n])
		same(t, "Add", l, got, e, want, err)
		if n, m := goods.Count(l, 3), count(l, 3); n != m {
			t.Errorf("Count: %d, want %d", n, m)
		}
	}
	if e := goods.Check(of(1, 1, 2, 1, 0, 1)[:2], 2); e != api.OK {
		t.Errorf("Check of the first two: %d", e)
	}
}

// calls calls all.
func calls(a, b []api.Stack) {
	goods.Norm(a)
	goods.Check(a, 3)
	goods.Add(a, b)
	goods.Sub(a, b)
	goods.Times(a, 3)
	goods.Count(a, 3)
	goods.Size(a)
}

// R3: what is answered is new memory, also where it is what was handed in.
func TestAnswersAreNew(t *testing.T) {
	for name, call := range map[string]func(l []api.Stack) ([]api.Stack, api.Errno){
		"Norm":  goods.Norm,
		"Add":   func(l []api.Stack) ([]api.Stack, api.Errno) { return goods.Add(l, nil) },
		"Add b": func(l []api.Stack) ([]api.Stack, api.Errno) { return goods.Add(nil, l) },
		"Sub":   func(l []api.Stack) ([]api.Stack, api.Errno) { return goods.Sub(l, nil) },
		"Times": func(l []api.Stack) ([]api.Stack, api.Errno) { return goods.Times(l, 1) },
	} {
		l := append(make([]api.Stack, 0, 9), of(1, 2, 3, 4)...)
		first, second := good(t)(call(l)), good(t)(call(l))
		if !slices.Equal(first, of(1, 2, 3, 4)) || !slices.Equal(second, first) {
			t.Fatalf("%s: %v, %v", name, first, second)
		}
		first[0] = api.Stack{Type: 9, Qty: 9}
		_ = append(first, api.Stack{Type: 8, Qty: 8})
		if !slices.Equal(l, of(1, 2, 3, 4)) || !slices.Equal(second, l) {
			t.Errorf("%s shares its answer: %v, %v", name, l, second)
		}
		if !slices.Equal(l[:3], of(1, 2, 3, 4, 0, 0)) {
			t.Errorf("%s wrote behind the end: %v", name, l[:3])
		}
	}
}

// R4: asked again, it is answered the same, in whatever order the types are gone over.
func TestAskedAgain(t *testing.T) {
	r := chance()
	a, b := chosen(r, 200, 50), chosen(r, 20, 50)
	a = append(a, good(t)(goods.Norm(b))...)
	norm1, sum1 := good(t)(goods.Norm(a)), good(t)(goods.Add(a, b))
	rest1, times1 := good(t)(goods.Sub(a, b)), good(t)(goods.Times(a, 7))
	for range 50 {
		l, e := goods.Norm(a)
		same(t, "Norm", "the same", l, e, norm1, api.OK)
		l, e = goods.Add(a, b)
		same(t, "Add", "the same", l, e, sum1, api.OK)
		l, e = goods.Sub(a, b)
		same(t, "Sub", "the same", l, e, rest1, api.OK)
		l, e = goods.Times(a, 7)
		same(t, "Times", "the same", l, e, times1, api.OK)
	}
}
