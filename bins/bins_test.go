package bins_test

import (
	"bottomry/api"
	"bottomry/bins"
	"cmp"
	"math"
	"math/big"
	"math/rand/v2"
	"slices"
	"testing"
)

const (
	most  = api.MaxQty
	last  = api.MaxTime
	least = math.MinInt
)

// chance are numbers that are the same at each run.
func chance() *rand.Rand { return rand.New(rand.NewPCG(11, 33)) }

// at is a bin.
func at(owner, div, place, kind int) api.Bin {
	return api.Bin{Owner: owner, Div: div, Place: place, Type: kind}
}

// of are lots: an owner, a division, a place, a type, how many, and so on.
func of(n ...int) []api.Lot {
	var l []api.Lot
	for k := 0; k+4 < len(n); k += 5 {
		l = append(l, api.Lot{Bin: at(n[k], n[k+1], n[k+2], n[k+3]), Qty: n[k+4]})
	}
	return l
}

// stacks are stacks: a type, how many, and so on.
func stacks(n ...int) []api.Stack {
	var l []api.Stack
	for k := 0; k+1 < len(n); k += 2 {
		l = append(l, api.Stack{Type: n[k], Qty: n[k+1]})
	}
	return l
}

// loaded are bins with lots.
func loaded(t *testing.T, l []api.Lot) *bins.Bins {
	t.Helper()
	b, e := bins.Load(l)
	if e != api.OK || b == nil {
		t.Fatalf("Load(%v): %v, %d", l, b, e)
	}
	return b
}

// in is how many of the lots lie in a bin.
func in(l []api.Lot, x api.Bin) int {
	for _, y := range l {
		if y.Bin == x {
			return y.Qty
		}
	}
	return 0
}

// within are the stacks of the lots, which stand by their bins, that lie in a division at a place.
func within(l []api.Lot, x api.Bin) []api.Stack {
	var found []api.Stack
	for _, y := range l {
		if y.Owner == x.Owner && y.Div == x.Div && y.Place == x.Place {
			found = append(found, api.Stack{Type: y.Type, Qty: y.Qty})
		}
	}
	return found
}

// around are a bin, and those that differ from it in one number by one.
func around(x api.Bin) []api.Bin {
	l := []api.Bin{x}
	for _, n := range []int{-1, 1} {
		l = append(l, at(x.Owner+n, x.Div, x.Place, x.Type), at(x.Owner, x.Div+n, x.Place, x.Type), at(x.Owner, x.Div, x.Place+n, x.Type), at(x.Owner, x.Div, x.Place, x.Type+n))
	}
	return l
}

// has looks at all that bins tell: the lots, by their bins, are to be all that lie there.
func has(t *testing.T, b *bins.Bins, want []api.Lot) {
	t.Helper()
	if l := b.List(); !slices.Equal(l, want) {
		t.Errorf("List: %v, want %v", l, want)
	}
	all := map[int]int{}
	looked := []api.Bin{{}, at(1, 0, 1, 1), at(least, least, least, least), at(math.MaxInt, math.MaxInt, math.MaxInt, math.MaxInt), at(0, 0, math.MaxInt, 1), at(last, 4, 8, 32)}
	for _, x := range want {
		all[x.Type] += x.Qty
		looked = append(looked, around(x.Bin)...)
	}
	for _, x := range looked {
		if n := b.Qty(x); n != in(want, x) {
			t.Errorf("Qty(%v) = %d, want %d", x, n, in(want, x))
		}
		if l := b.Of(x); !slices.Equal(l, within(want, x)) {
			t.Errorf("Of(%v) = %v, want %v", x, l, within(want, x))
		}
	}
	for _, kind := range types {
		if n := b.Total(kind); n != all[kind] {
			t.Errorf("Total(%d) = %d, want %d", kind, n, all[kind])
		}
	}
}

// holds is has of lots that are written out.
func holds(t *testing.T, b *bins.Bins, n ...int) {
	t.Helper()
	has(t, b, of(n...))
}

// answers looks at an answer, and at what lies in the bins then.
func answers(t *testing.T, what string, got, want api.Errno, b *bins.Bins, n ...int) {
	t.Helper()
	if got != want {
		t.Errorf("%s: %d, want %d", what, got, want)
	}
	holds(t, b, n...)
}

// Numbers at the edges of those of a bin, and of how many lie there, good ones and wrong ones.
var (
	owners = []int{least, -last, -1, 0, 1, 101, 1 << 20, 1 << 21, 1 << 32, last - 1, last, last + 1, 1 << 62, math.MaxInt}
	divs   = []int{least, -4, -1, 0, 1, 3, 4, 5, 1 << 32, math.MaxInt}
	places = []int{least, -8, -1, 0, 1, 2, 7, 8, 9, 1<<32 + 1, math.MaxInt}
	types  = []int{least, -32, -1, 0, 1, 2, 3, 31, 32, 33, 1<<32 + 1, math.MaxInt}
	sums   = []int{least, least + 1, -most, -2, -1, 0, 1, 2, 59, 60, 61, 1 << 32, most - 61, most - 60, most - 59, most - 1, most, most + 1, 1 << 51, 1 << 62, math.MaxInt - 1, math.MaxInt}
)

// edges hands on each bin at the edges.
func edges(do func(x api.Bin)) {
	for _, owner := range owners {
		for _, div := range divs {
			for _, place := range places {
				for _, kind := range types {
					do(at(owner, div, place, kind))
				}
			}
		}
	}
}

// good tells whether a bin may be, in the chapter's words.
func good(x api.Bin) bool {
	return 0 <= x.Owner && x.Owner <= 1<<40 && 0 <= x.Div && x.Div <= 4 && 1 <= x.Place && x.Place <= 8 && 1 <= x.Type && x.Type <= 32
}

// wrong are bins that may not be, each by one of its numbers; the type is right in those that have a wrong one elsewhere.
func wrong(kind int) []api.Bin {
	return []api.Bin{
		at(-1, 1, 1, kind), at(last+1, 1, 1, kind), at(least, 1, 1, kind), at(math.MaxInt, 1, 1, kind),
		at(1, -1, 1, kind), at(1, 5, 1, kind), at(1, least, 1, kind), at(1, math.MaxInt, 1, kind),
		at(1, 1, 0, kind), at(1, 1, 9, kind), at(1, 1, -1, kind), at(1, 1, least, kind), at(1, 1, math.MaxInt, kind),
	}
}

// untyped are bins that may not be, by their types.
func untyped() []api.Bin {
	return []api.Bin{at(1, 1, 1, 0), at(1, 1, 1, 33), at(1, 1, 1, -1), at(1, 1, 1, least), at(1, 1, 1, math.MaxInt)}
}

// byBin sorts lots by their bins, by another hand: by each number alone, the one that counts least first.
func byBin(l []api.Lot) []api.Lot {
	l = slices.Clone(l)
	for _, number := range []func(x api.Bin) int{
		func(x api.Bin) int { return x.Type }, func(x api.Bin) int { return x.Place }, func(x api.Bin) int { return x.Div }, func(x api.Bin) int { return x.Owner },
	} {
		slices.SortStableFunc(l, func(a, b api.Lot) int { return cmp.Compare(number(a.Bin), number(b.Bin)) })
	}
	return l
}

// orders hands on the numbers below n in each order that there is.
func orders(n int, do func(order []int)) {
	var next func(order []int)
	next = func(order []int) {
		if len(order) == n {
			do(slices.Clone(order))
		}
		for i := range n {
			if !slices.Contains(order, i) {
				next(append(slices.Clone(order), i))
			}
		}
	}
	next(nil)
}

// Bn1: zero bins have nothing, and may be used.
func TestBn1Zero(t *testing.T) {
	for _, b := range []*bins.Bins{{}, new(bins.Bins)} {
		holds(t, b)
		answers(t, "Take", b.Take(at(0, 0, 1, 1), 1), api.ErrItems, b)
		answers(t, "Take of none", b.Take(at(0, 0, 1, 1), 0), api.OK, b)
		answers(t, "Put of none", b.Put(at(0, 0, 1, 1), 0), api.OK, b)
		answers(t, "Move", b.Move(at(0, 0, 1, 1), at(0, 0, 2, 1), 1), api.ErrItems, b)
		answers(t, "PutAll of none", b.PutAll(at(0, 0, 1, 1), nil), api.OK, b)
		answers(t, "TakeAll of none", b.TakeAll(at(0, 0, 1, 1), nil), api.OK, b)
		answers(t, "TakeAll", b.TakeAll(at(0, 0, 1, 1), stacks(1, 1)), api.ErrItems, b)
		holds(t, b.Clone())
		answers(t, "PutAll", b.PutAll(at(0, 0, 1, 1), stacks(1, 1)), api.OK, b, 0, 0, 1, 1, 1)
		answers(t, "Put", b.Put(at(4, 4, 8, 32), 9), api.OK, b, 0, 0, 1, 1, 1, 4, 4, 8, 32, 9)
	}
	for _, l := range [][]api.Lot{nil, {}} {
		b := loaded(t, l)
		holds(t, b)
		answers(t, "Put", b.Put(at(0, 0, 1, 1), 1), api.OK, b, 0, 0, 1, 1, 1)
	}
}

// Bn1: the lots that are loaded are there, by their bins, in whatever order they are handed in.
func TestBn1Load(t *testing.T) {
	l := of(0, 0, 1, 1, most, 0, 4, 1, 2, 5, 1, 0, 8, 32, 1, 1, 1, 1, 2, 7, 1, 1, 1, 3, 60, last, 4, 8, 32, most-1)
	orders(len(l), func(order []int) {
		var lots []api.Lot
		for _, i := range order {
			lots = append(lots, l[i])
		}
		ahead := slices.Clone(lots)
		b := loaded(t, lots)
		if !slices.Equal(b.List(), l) {
			t.Errorf("Load(%v): %v", lots, b.List())
		}
		if !slices.Equal(lots, ahead) {
			t.Errorf("what was handed in was changed: %v, ahead %v", lots, ahead)
		}
	})
	has(t, loaded(t, l), l)
}

// Bn1: each bin at the edges, with one thing in it, and with numbers at the edges in a bin: told in the chapter's words.
func TestBn1LoadEdges(t *testing.T) {
	edges(func(x api.Bin) {
		b, e := bins.Load([]api.Lot{{Bin: x, Qty: 1}})
		if !good(x) {
			if b != nil || e != api.ErrArg {
				t.Errorf("Load of %v: %v, %d, want ErrArg", x, b, e)
			}
			return
		}
		if e != api.OK || !slices.Equal(b.List(), []api.Lot{{Bin: x, Qty: 1}}) || b.Qty(x) != 1 {
			t.Errorf("Load of %v: %v, %d", x, b.List(), e)
		}
	})
	for _, n := range sums {
		b, e := bins.Load(of(1, 1, 1, 1, n))
		if n < 1 || n > 1<<50 {
			if b != nil || e != api.ErrArg {
				t.Errorf("Load of %d: %v, %d, want ErrArg", n, b, e)
			}
			continue
		}
		if e != api.OK {
			t.Fatalf("Load of %d: %d", n, e)
		}
		holds(t, b, 1, 1, 1, 1, n)
	}
}

// Bn1: one wrong lot is enough, wherever it stands, and so is a bin that is there twice; ErrArg is named ahead of ErrOver.
func TestBn1LoadArg(t *testing.T) {
	lists := [][]api.Lot{of(0, 0, 1, 1, 5, 2, 1, 1, 1, 1, 2, 1, 1, 2, 50, last, 4, 8, 32, 1), of(2, 1, 1, 1, most, 3, 1, 1, 1, most, 0, 0, 1, 2, 1), of(4, 0, 1, 1, most, 5, 0, 1, 1, 1)}
	for _, l := range lists {
		bad := of(1, 1, 1, 7, 0, 1, 1, 1, 7, -1, 1, 1, 1, 7, least, 1, 1, 1, 7, most+1, 1, 1, 1, 7, math.MaxInt)
		for _, x := range append(wrong(1), untyped()...) {
			bad = append(bad, api.Lot{Bin: x, Qty: 1})
		}
		for _, x := range l {
			bad = append(bad, x, api.Lot{Bin: x.Bin, Qty: 1})
		}
		for _, x := range bad {
			for i := range len(l) + 1 {
				lots := slices.Insert(slices.Clone(l), i, x)
				if b, e := bins.Load(lots); b != nil || e != api.ErrArg {
					t.Errorf("Load(%v): %v, %d, want ErrArg", lots, b, e)
				}
			}
		}
	}
}

// Bn1: of each type there may be MaxQty in all, and not one more.
func TestBn1LoadOver(t *testing.T) {
	for _, kind := range []int{1, 2, 31, 32} {
		for _, l := range [][]api.Lot{
			of(1, 0, 1, kind, most), of(1, 0, 1, kind, most-1, 2, 0, 1, kind, 1), of(1, 0, 1, kind, most/2, 1, 1, 1, kind, most/2), of(1, 0, 1, kind, most/2, 1, 0, 2, kind, most/2-1, 1, 0, 3, kind, 1),
		} {
			has(t, loaded(t, l), l)
			// Those of the other types are others.
			for other := range 32 {
				if other+1 == kind {
					continue
				}
				more := byBin(append(slices.Clone(l), of(1, 4, 8, other+1, most)...))
				has(t, loaded(t, more), more)
			}
		}
		for _, l := range [][]api.Lot{
			of(1, 0, 1, kind, most, 2, 0, 1, kind, 1), of(1, 0, 1, kind, 1, 1, 1, 1, kind, most), of(1, 0, 1, kind, most, 1, 0, 2, kind, most), of(1, 0, 1, kind, most/2, 1, 0, 2, kind, most/2, 1, 0, 3, kind, 1),
			of(1, 0, 1, 3, 1, 1, 0, 1, kind, most, 2, 0, 1, 3, 5, 2, 0, 1, kind, 1, 3, 0, 1, 3, 6),
		} {
			if b, e := bins.Load(l); b != nil || e != api.ErrOver {
				t.Errorf("Load(%v): %v, %d, want ErrOver", l, b, e)
			}
		}
	}
}

// Bn1: a sum that would go round is too much as well.
func TestBn1LoadOverRound(t *testing.T) {
	for _, many := range []int{1 << 13, 1 << 14} {
		var l []api.Lot
		for i := range many {
			l = append(l, of(i, 0, 1, 1, most)...)
		}
		if b, e := bins.Load(l); b != nil || e != api.ErrOver {
			t.Errorf("Load of %d: %d, want ErrOver", many, e)
		}
	}
}

// Bn1: the list that is handed in is not kept, and not read behind its end.
func TestBn1LoadKeepsNoList(t *testing.T) {
	room := of(3, 0, 1, 1, 30, 1, 0, 1, 1, 10, 2, 0, 1, 1, 20, 1, 0, 1, 1, 99, -1, -1, -1, -1, -1)
	ahead := slices.Clone(room)
	b, e := bins.Load(room[:3])
	if e != api.OK || !slices.Equal(room, ahead) {
		t.Fatal(e, room)
	}
	for i := range room {
		room[i] = api.Lot{Bin: at(8, 1, 8, 8), Qty: 8}
	}
	holds(t, b, 1, 0, 1, 1, 10, 2, 0, 1, 1, 20, 3, 0, 1, 1, 30)
}

// Bn1: lots stand by their owners, then by their divisions, their places, and their types.
func TestBn1Order(t *testing.T) {
	var l []api.Lot
	for _, owner := range []int{0, 1, last} {
		for _, div := range []int{0, 1, 4} {
			for _, place := range []int{1, 2, 8} {
				for _, kind := range []int{1, 2, 32} {
					l = append(l, api.Lot{Bin: at(owner, div, place, kind), Qty: len(l) + 1})
				}
			}
		}
	}
	r := chance()
	for range 20 {
		b := new(bins.Bins)
		for _, i := range r.Perm(len(l)) {
			if e := b.Put(l[i].Bin, l[i].Qty); e != api.OK {
				t.Fatal(l[i], e)
			}
		}
		has(t, b, l)
	}
}

// Bn1: Of tells the stacks of all types, of one division at one place alone; the type that is handed in does not matter.
func TestBn1Of(t *testing.T) {
	x := at(5, 2, 3, 0)
	var l []api.Lot
	var want []api.Stack
	for _, y := range []api.Bin{x, at(4, 2, 3, 0), at(6, 2, 3, 0), at(5, 1, 3, 0), at(5, 3, 3, 0), at(5, 2, 2, 0), at(5, 2, 4, 0)} {
		for kind := 1; kind <= 32; kind++ {
			l = append(l, of(y.Owner, y.Div, y.Place, kind, len(l)+1)...)
		}
	}
	for _, y := range l[:32] {
		want = append(want, api.Stack{Type: y.Type, Qty: y.Qty})
	}
	b := loaded(t, l)
	has(t, b, byBin(l))
	for _, kind := range types {
		x.Type = kind
		if got := b.Of(x); len(got) != 32 || !slices.Equal(got, want) {
			t.Errorf("Of(%v) = %v, want %v", x, got, want)
		}
	}
	for _, y := range wrong(1) {
		if got := b.Of(y); len(got) != 0 {
			t.Errorf("Of(%v) = %v", y, got)
		}
	}
}

// Bn1: Qty and Of at all edges tell nothing where nothing lies, and nothing of bins that may not be.
func TestBn1QtyEdges(t *testing.T) {
	b := loaded(t, of(1, 1, 1, 1, 5, last, 4, 8, 32, 6))
	edges(func(x api.Bin) {
		want := 0
		switch x {
		case at(1, 1, 1, 1):
			want = 5
		case at(1<<40, 4, 8, 32):
			want = 6
		}
		if n := b.Qty(x); n != want {
			t.Errorf("Qty(%v) = %d, want %d", x, n, want)
		}
		l := b.Of(x)
		switch {
		case x.Owner == 1 && x.Div == 1 && x.Place == 1:
			if !slices.Equal(l, stacks(1, 5)) {
				t.Errorf("Of(%v) = %v", x, l)
			}
		case x.Owner == 1<<40 && x.Div == 4 && x.Place == 8:
			if !slices.Equal(l, stacks(32, 6)) {
				t.Errorf("Of(%v) = %v", x, l)
			}
		case len(l) != 0:
			t.Errorf("Of(%v) = %v", x, l)
		}
	})
}

// Bn1: what is told is new memory: who changes it changes no bins, and no other list.
func TestBn1ListIsNew(t *testing.T) {
	want := of(1, 0, 1, 1, 10, 1, 0, 1, 2, 20)
	b := loaded(t, want)
	l, m, k, n := b.List(), b.List(), b.Of(at(1, 0, 1, 1)), b.Of(at(1, 0, 1, 1))
	l[0], k[0] = of(7, 0, 1, 7, 77)[0], api.Stack{Type: 7, Qty: 77}
	_ = append(l[:1], of(8, 0, 1, 8, 88)...)
	_ = append(k[:1], stacks(8, 88)...)
	if !slices.Equal(m, want) || !slices.Equal(n, stacks(1, 10, 2, 20)) {
		t.Error(m, n)
	}
	has(t, b, want)
	b.Put(at(1, 0, 1, 1), 5)
	b.Put(at(0, 0, 1, 1), 5)
	if !slices.Equal(m, want) || !slices.Equal(n, stacks(1, 10, 2, 20)) {
		t.Error(m, n)
	}
}

// start are the bins of those tests that change them in many ways.
func start() []api.Lot {
	return of(1, 0, 1, 1, 10, 1, 0, 1, 2, 20, 1, 0, 2, 1, 30, 2, 1, 1, 1, 40)
}

// changes are calls that change bins that start as start.
func changes() map[string]func(b *bins.Bins) {
	return map[string]func(b *bins.Bins){
		"Put":       func(b *bins.Bins) { b.Put(at(1, 0, 1, 1), 5) },
		"ahead":     func(b *bins.Bins) { b.Put(at(0, 0, 1, 1), 5) },
		"behind":    func(b *bins.Bins) { b.Put(at(9, 0, 1, 1), 5) },
		"Take":      func(b *bins.Bins) { b.Take(at(2, 1, 1, 1), 5) },
		"Take all":  func(b *bins.Bins) { b.Take(at(1, 0, 2, 1), b.Qty(at(1, 0, 2, 1))) },
		"Move":      func(b *bins.Bins) { b.Move(at(1, 0, 1, 1), at(2, 1, 1, 1), 4) },
		"PutAll":    func(b *bins.Bins) { b.PutAll(at(1, 0, 1, 9), stacks(1, 2, 2, 3, 3, 4)) },
		"TakeAll":   func(b *bins.Bins) { b.TakeAll(at(1, 0, 1, 9), stacks(1, 2, 2, 20)) },
		"Move away": func(b *bins.Bins) { b.Move(at(1, 0, 1, 2), at(1, 0, 2, 2), b.Qty(at(1, 0, 1, 2))) },
	}
}

// Bn1: a clone has the same, and what is done to one is not done to the other.
func TestBn1Clone(t *testing.T) {
	for what, change := range changes() {
		b := loaded(t, start())
		c := b.Clone()
		has(t, c, start())
		change(c)
		has(t, b, start())
		changed := c.List()
		if slices.Equal(changed, start()) {
			t.Errorf("%s: nothing was changed", what)
		}
		d := b.Clone()
		change(b)
		has(t, b, changed)
		has(t, c, changed)
		has(t, d, start())
		for _, more := range changes() {
			more(c.Clone())
			has(t, c, changed)
		}
	}
}

// Bn1: two that have the same are put into in the same place: neither has what the other one has.
func TestBn1CloneSamePlace(t *testing.T) {
	for many := range 40 {
		b := new(bins.Bins)
		var l []api.Lot
		for i := range many {
			b.Put(at(i, 0, 1, 1), i+1)
			l = append(l, of(i, 0, 1, 1, i+1)...)
		}
		c := b.Clone()
		b.Put(at(100, 0, 1, 1), 1)
		c.Put(at(100, 0, 1, 2), 2)
		has(t, b, append(slices.Clone(l), of(100, 0, 1, 1, 1)...))
		has(t, c, append(slices.Clone(l), of(100, 0, 1, 2, 2)...))
	}
}

// Bn1 to Bn3: nil bins: ErrArg, whatever is asked for, nothing, 0; their clone has nothing.
func TestBn1Nil(t *testing.T) {
	var b *bins.Bins
	edges(func(x api.Bin) {
		for what, e := range map[string]api.Errno{
			"Put": b.Put(x, 0), "Take": b.Take(x, 0), "Move": b.Move(x, x, 0), "Move to": b.Move(at(1, 0, 1, 1), x, 0), "PutAll": b.PutAll(x, nil), "TakeAll": b.TakeAll(x, nil),
		} {
			if e != api.ErrArg {
				t.Errorf("%s of %v: %d", what, x, e)
			}
		}
		if b.Qty(x) != 0 || len(b.Of(x)) != 0 || b.Total(x.Type) != 0 {
			t.Error(x, b.Qty(x), b.Of(x), b.Total(x.Type))
		}
	})
	for _, n := range sums {
		for what, e := range map[string]api.Errno{
			"Put": b.Put(at(1, 0, 1, 1), n), "Take": b.Take(at(1, 0, 1, 1), n), "Move": b.Move(at(1, 0, 1, 1), at(1, 0, 2, 1), n), "PutAll": b.PutAll(at(1, 0, 1, 1), stacks(1, n)), "TakeAll": b.TakeAll(at(1, 0, 1, 1), stacks(1, n)),
		} {
			if e != api.ErrArg {
				t.Errorf("%s of %d: %d", what, n, e)
			}
		}
	}
	if l := b.List(); len(l) != 0 {
		t.Error(l)
	}
	c := b.Clone()
	if c == nil {
		t.Fatal("Clone: nil")
	}
	holds(t, c)
	answers(t, "Put", c.Put(at(1, 0, 1, 1), 5), api.OK, c, 1, 0, 1, 1, 5)
	holds(t, b.Clone())
}

// Bn2: Put lays more in a bin, up to MaxQty of the type in all.
func TestBn2Put(t *testing.T) {
	b := loaded(t, of(1, 0, 1, 3, 5, 2, 1, 1, 3, 7))
	answers(t, "0", b.Put(at(1, 0, 1, 3), 0), api.OK, b, 1, 0, 1, 3, 5, 2, 1, 1, 3, 7)
	answers(t, "0, where nothing lies", b.Put(at(1, 0, 1, 4), 0), api.OK, b, 1, 0, 1, 3, 5, 2, 1, 1, 3, 7)
	answers(t, "1", b.Put(at(1, 0, 1, 3), 1), api.OK, b, 1, 0, 1, 3, 6, 2, 1, 1, 3, 7)
	answers(t, "where nothing lies", b.Put(at(1, 0, 2, 3), 2), api.OK, b, 1, 0, 1, 3, 6, 1, 0, 2, 3, 2, 2, 1, 1, 3, 7)
	answers(t, "one too many", b.Put(at(2, 1, 1, 3), most-14), api.ErrOver, b, 1, 0, 1, 3, 6, 1, 0, 2, 3, 2, 2, 1, 1, 3, 7)
	answers(t, "all", b.Put(at(2, 1, 1, 3), most-15), api.OK, b, 1, 0, 1, 3, 6, 1, 0, 2, 3, 2, 2, 1, 1, 3, most-8)
	for _, x := range []api.Bin{at(1, 0, 1, 3), at(2, 1, 1, 3), at(9, 0, 1, 3)} {
		answers(t, "none, of a type of which there are all", b.Put(x, 0), api.OK, b, 1, 0, 1, 3, 6, 1, 0, 2, 3, 2, 2, 1, 1, 3, most-8)
		answers(t, "1, of a type of which there are all", b.Put(x, 1), api.ErrOver, b, 1, 0, 1, 3, 6, 1, 0, 2, 3, 2, 2, 1, 1, 3, most-8)
		answers(t, "the most", b.Put(x, math.MaxInt), api.ErrOver, b, 1, 0, 1, 3, 6, 1, 0, 2, 3, 2, 2, 1, 1, 3, most-8)
	}
	answers(t, "of another type", b.Put(at(1, 0, 1, 4), most), api.OK, b, 1, 0, 1, 3, 6, 1, 0, 1, 4, most, 1, 0, 2, 3, 2, 2, 1, 1, 3, most-8)
}

// Bn2: Put and Take of each bin at the edges, told in the chapter's words.
func TestBn2BinEdges(t *testing.T) {
	edges(func(x api.Bin) {
		for _, n := range []int{-1, 0, 1} {
			b := new(bins.Bins)
			want, lots := api.OK, []api.Lot(nil)
			switch {
			case !good(x) || n < 0:
				want = api.ErrArg
			case n > 0:
				lots = []api.Lot{{Bin: x, Qty: n}}
			}
			if e := b.Put(x, n); e != want || !slices.Equal(b.List(), lots) {
				t.Errorf("Put(%v, %d): %d, %v, want %d", x, n, e, b.List(), want)
			}
			if e := b.Take(x, n); e != want || len(b.List()) != 0 {
				t.Errorf("Take(%v, %d): %d, %v, want %d", x, n, e, b.List(), want)
			}
			if want == api.OK && n == 1 {
				want = api.ErrItems
			}
			if e := b.Take(x, n); e != want || len(b.List()) != 0 {
				t.Errorf("Take(%v, %d) again: %d, %v, want %d", x, n, e, b.List(), want)
			}
		}
	})
}

// Bn2: Put at all numbers at the edges, told in the chapter's words: what lies in other bins counts, too.
func TestBn2PutEdges(t *testing.T) {
	for _, a := range []int{1, 60, most - 61, most - 60} {
		for _, n := range sums {
			for _, x := range append(wrong(3), at(1, 0, 1, 3), at(5, 4, 8, 3), at(6, 0, 1, 3), at(1, 0, 1, 33), at(1, 0, 1, 0)) {
				l := of(1, 0, 1, 3, a, 5, 4, 8, 3, 60, 7, 0, 1, 4, most)
				b := loaded(t, l)
				want := api.OK
				switch {
				case !good(x) || n < 0:
					want = api.ErrArg
				case n > 1<<50-60-a:
					want = api.ErrOver
				default:
					l = added(l, x, n)
				}
				if e := b.Put(x, n); e != want || !slices.Equal(b.List(), l) {
					t.Errorf("Put(%v, %d) beside %d: %d, %v, want %d, %v", x, n, a, e, b.List(), want, l)
				}
			}
		}
	}
}

// added are lots, by their bins, when so many more, or fewer, lie in a bin.
func added(l []api.Lot, x api.Bin, n int) []api.Lot {
	n += in(l, x)
	l = slices.DeleteFunc(slices.Clone(l), func(y api.Lot) bool { return y.Bin == x })
	if n != 0 {
		l = append(l, api.Lot{Bin: x, Qty: n})
	}
	return byBin(l)
}

// Bn2, the chapter's example: Take of more than there are is ErrItems.
func TestBn2Take(t *testing.T) {
	b := loaded(t, of(1, 0, 1, 3, 10, 1, 0, 1, 4, 50, 1, 0, 2, 3, 5))
	answers(t, "more than there are", b.Take(at(1, 0, 1, 3), 11), api.ErrItems, b, 1, 0, 1, 3, 10, 1, 0, 1, 4, 50, 1, 0, 2, 3, 5)
	answers(t, "0", b.Take(at(1, 0, 1, 3), 0), api.OK, b, 1, 0, 1, 3, 10, 1, 0, 1, 4, 50, 1, 0, 2, 3, 5)
	answers(t, "1", b.Take(at(1, 0, 1, 3), 1), api.OK, b, 1, 0, 1, 3, 9, 1, 0, 1, 4, 50, 1, 0, 2, 3, 5)
	answers(t, "all: there is no such lot any more", b.Take(at(1, 0, 1, 3), 9), api.OK, b, 1, 0, 1, 4, 50, 1, 0, 2, 3, 5)
	answers(t, "none of none", b.Take(at(1, 0, 1, 3), 0), api.OK, b, 1, 0, 1, 4, 50, 1, 0, 2, 3, 5)
	answers(t, "1 of none", b.Take(at(1, 0, 1, 3), 1), api.ErrItems, b, 1, 0, 1, 4, 50, 1, 0, 2, 3, 5)
	answers(t, "less than none", b.Take(at(1, 0, 1, 4), -1), api.ErrArg, b, 1, 0, 1, 4, 50, 1, 0, 2, 3, 5)
	answers(t, "all but one", b.Take(at(1, 0, 1, 4), 49), api.OK, b, 1, 0, 1, 4, 1, 1, 0, 2, 3, 5)
	answers(t, "put again", b.Put(at(1, 0, 1, 3), 2), api.OK, b, 1, 0, 1, 3, 2, 1, 0, 1, 4, 1, 1, 0, 2, 3, 5)
}

// Bn2: Take at all numbers at the edges, told in the chapter's words.
func TestBn2TakeEdges(t *testing.T) {
	for _, a := range []int{1, 60, most - 61, most - 60} {
		for _, n := range sums {
			for _, x := range append(wrong(3), at(1, 0, 1, 3), at(5, 4, 8, 3), at(6, 0, 1, 3), at(1, 0, 1, 33), at(1, 0, 1, 0)) {
				l := of(1, 0, 1, 3, a, 5, 4, 8, 3, 60, 7, 0, 1, 4, most)
				b := loaded(t, l)
				want := api.OK
				switch {
				case !good(x) || n < 0:
					want = api.ErrArg
				case n > in(l, x):
					want = api.ErrItems
				default:
					l = added(l, x, -n)
				}
				if e := b.Take(x, n); e != want || !slices.Equal(b.List(), l) {
					t.Errorf("Take(%v, %d) beside %d: %d, %v, want %d, %v", x, n, a, e, b.List(), want, l)
				}
			}
		}
	}
}

// Bn2: Move takes out of one bin, and lays in another one of the same type, wherever that is.
func TestBn2Move(t *testing.T) {
	b := loaded(t, of(1, 0, 1, 3, 10, 1, 0, 1, 4, 50, 2, 1, 1, 3, 5))
	answers(t, "more than there are", b.Move(at(1, 0, 1, 3), at(2, 1, 1, 3), 11), api.ErrItems, b, 1, 0, 1, 3, 10, 1, 0, 1, 4, 50, 2, 1, 1, 3, 5)
	answers(t, "more than there are, to itself", b.Move(at(1, 0, 1, 3), at(1, 0, 1, 3), 11), api.ErrItems, b, 1, 0, 1, 3, 10, 1, 0, 1, 4, 50, 2, 1, 1, 3, 5)
	answers(t, "all to itself", b.Move(at(1, 0, 1, 3), at(1, 0, 1, 3), 10), api.OK, b, 1, 0, 1, 3, 10, 1, 0, 1, 4, 50, 2, 1, 1, 3, 5)
	answers(t, "to another type", b.Move(at(1, 0, 1, 3), at(1, 0, 1, 4), 0), api.ErrArg, b, 1, 0, 1, 3, 10, 1, 0, 1, 4, 50, 2, 1, 1, 3, 5)
	answers(t, "less than none", b.Move(at(1, 0, 1, 3), at(2, 1, 1, 3), -1), api.ErrArg, b, 1, 0, 1, 3, 10, 1, 0, 1, 4, 50, 2, 1, 1, 3, 5)
	answers(t, "less than none, to itself", b.Move(at(1, 0, 1, 3), at(1, 0, 1, 3), -1), api.ErrArg, b, 1, 0, 1, 3, 10, 1, 0, 1, 4, 50, 2, 1, 1, 3, 5)
	answers(t, "some", b.Move(at(1, 0, 1, 3), at(2, 1, 1, 3), 4), api.OK, b, 1, 0, 1, 3, 6, 1, 0, 1, 4, 50, 2, 1, 1, 3, 9)
	answers(t, "all, to where nothing lies", b.Move(at(1, 0, 1, 3), at(1, 0, 2, 3), 6), api.OK, b, 1, 0, 1, 4, 50, 1, 0, 2, 3, 6, 2, 1, 1, 3, 9)
	answers(t, "none of none", b.Move(at(1, 0, 1, 3), at(1, 0, 2, 3), 0), api.OK, b, 1, 0, 1, 4, 50, 1, 0, 2, 3, 6, 2, 1, 1, 3, 9)
	answers(t, "none to where nothing lies", b.Move(at(1, 0, 2, 3), at(1, 0, 1, 3), 0), api.OK, b, 1, 0, 1, 4, 50, 1, 0, 2, 3, 6, 2, 1, 1, 3, 9)
	answers(t, "1 of none", b.Move(at(1, 0, 1, 3), at(1, 0, 2, 3), 1), api.ErrItems, b, 1, 0, 1, 4, 50, 1, 0, 2, 3, 6, 2, 1, 1, 3, 9)
	for _, x := range wrong(3) {
		answers(t, "from none", b.Move(x, at(1, 0, 2, 3), 0), api.ErrArg, b, 1, 0, 1, 4, 50, 1, 0, 2, 3, 6, 2, 1, 1, 3, 9)
		answers(t, "to none", b.Move(at(1, 0, 2, 3), x, 1), api.ErrArg, b, 1, 0, 1, 4, 50, 1, 0, 2, 3, 6, 2, 1, 1, 3, 9)
		answers(t, "to none, and more than there are", b.Move(at(1, 0, 2, 3), x, 7), api.ErrArg, b, 1, 0, 1, 4, 50, 1, 0, 2, 3, 6, 2, 1, 1, 3, 9)
		answers(t, "from none, to it", b.Move(x, x, 0), api.ErrArg, b, 1, 0, 1, 4, 50, 1, 0, 2, 3, 6, 2, 1, 1, 3, 9)
	}
	for _, x := range untyped() {
		answers(t, "of no type", b.Move(x, x, 0), api.ErrArg, b, 1, 0, 1, 4, 50, 1, 0, 2, 3, 6, 2, 1, 1, 3, 9)
	}
}

// Bn2: Move at all edges, told in the chapter's words; also of a type of which there are all that may be.
func TestBn2MoveEdges(t *testing.T) {
	ends := append(append(wrong(3), untyped()...), at(1, 0, 1, 3), at(5, 4, 8, 3), at(6, 0, 1, 3), at(1, 0, 1, 4), at(7, 0, 1, 4))
	for _, a := range []int{1, 60, most - 61, most - 60} {
		for _, from := range ends {
			for _, to := range ends {
				for _, n := range sums {
					moves(t, from, to, n, of(1, 0, 1, 3, a, 5, 4, 8, 3, 60, 7, 0, 1, 4, most))
				}
			}
		}
	}
}

// moves looks at one move in bins with lots.
func moves(t *testing.T, from, to api.Bin, n int, l []api.Lot) {
	t.Helper()
	b := loaded(t, l)
	want := api.OK
	switch {
	case !good(from) || !good(to) || from.Type != to.Type || n < 0:
		want = api.ErrArg
	case n > in(l, from):
		want = api.ErrItems
	default:
		l = added(added(l, from, -n), to, n)
	}
	if e := b.Move(from, to, n); e != want || !slices.Equal(b.List(), l) {
		t.Errorf("Move(%v, %v, %d): %d, %v, want %d, %v", from, to, n, e, b.List(), want, l)
	}
}

// Bn3: PutAll puts all stacks into a division's bins; the type that is handed in does not matter.
func TestBn3PutAll(t *testing.T) {
	for _, kind := range types {
		b := loaded(t, of(1, 0, 1, 3, 5, 2, 0, 1, 3, 7))
		answers(t, "none", b.PutAll(at(1, 0, 1, kind), nil), api.OK, b, 1, 0, 1, 3, 5, 2, 0, 1, 3, 7)
		answers(t, "one", b.PutAll(at(1, 0, 1, kind), stacks(3, 2)), api.OK, b, 1, 0, 1, 3, 7, 2, 0, 1, 3, 7)
		answers(t, "some", b.PutAll(at(1, 0, 1, kind), stacks(1, 1, 3, 3, 32, most)), api.OK, b, 1, 0, 1, 1, 1, 1, 0, 1, 3, 10, 1, 0, 1, 32, most, 2, 0, 1, 3, 7)
		answers(t, "elsewhere", b.PutAll(at(1, 0, 2, kind), stacks(2, 9)), api.OK, b, 1, 0, 1, 1, 1, 1, 0, 1, 3, 10, 1, 0, 1, 32, most, 1, 0, 2, 2, 9, 2, 0, 1, 3, 7)
		answers(t, "too many", b.PutAll(at(1, 0, 2, kind), stacks(32, 1)), api.ErrOver, b, 1, 0, 1, 1, 1, 1, 0, 1, 3, 10, 1, 0, 1, 32, most, 1, 0, 2, 2, 9, 2, 0, 1, 3, 7)
		answers(t, "all that may be", b.PutAll(at(last, 4, 8, kind), stacks(3, most-17)), api.OK, b, 1, 0, 1, 1, 1, 1, 0, 1, 3, 10, 1, 0, 1, 32, most, 1, 0, 2, 2, 9, 2, 0, 1, 3, 7, last, 4, 8, 3, most-17)
	}
}

// Bn3: TakeAll takes all stacks out of a division's bins; the type that is handed in does not matter.
func TestBn3TakeAll(t *testing.T) {
	for _, kind := range types {
		b := loaded(t, of(1, 0, 1, 1, 5, 1, 0, 1, 2, 6, 1, 0, 1, 32, most, 2, 0, 1, 2, 7))
		answers(t, "none", b.TakeAll(at(1, 0, 1, kind), nil), api.OK, b, 1, 0, 1, 1, 5, 1, 0, 1, 2, 6, 1, 0, 1, 32, most, 2, 0, 1, 2, 7)
		answers(t, "too few of one", b.TakeAll(at(1, 0, 1, kind), stacks(1, 5, 2, 7)), api.ErrItems, b, 1, 0, 1, 1, 5, 1, 0, 1, 2, 6, 1, 0, 1, 32, most, 2, 0, 1, 2, 7)
		answers(t, "none of one", b.TakeAll(at(1, 0, 1, kind), stacks(1, 1, 3, 1)), api.ErrItems, b, 1, 0, 1, 1, 5, 1, 0, 1, 2, 6, 1, 0, 1, 32, most, 2, 0, 1, 2, 7)
		answers(t, "elsewhere", b.TakeAll(at(1, 0, 2, kind), stacks(1, 1)), api.ErrItems, b, 1, 0, 1, 1, 5, 1, 0, 1, 2, 6, 1, 0, 1, 32, most, 2, 0, 1, 2, 7)
		answers(t, "some", b.TakeAll(at(1, 0, 1, kind), stacks(1, 4, 2, 6)), api.OK, b, 1, 0, 1, 1, 1, 1, 0, 1, 32, most, 2, 0, 1, 2, 7)
		answers(t, "the rest", b.TakeAll(at(1, 0, 1, kind), stacks(1, 1, 32, most)), api.OK, b, 2, 0, 1, 2, 7)
	}
}

// Bn3: if one of the stacks is refused, none is done, wherever that one stands.
func TestBn3None(t *testing.T) {
	var full, thin []api.Lot
	for kind := range 8 {
		full = append(full, of(1, 0, 1, kind+1, most-10)...)
		thin = append(thin, of(1, 0, 1, kind+1, 10)...)
	}
	for i := range 8 {
		for many := i + 1; many <= 8; many++ {
			var l []api.Stack
			for kind := range many {
				l = append(l, stacks(kind+1, 10)...)
			}
			b, c := loaded(t, full), loaded(t, thin)
			l[i].Qty = 11
			for _, x := range []api.Bin{at(1, 0, 1, 1), at(0, 0, 1, 1), at(9, 0, 1, 1)} {
				if e := b.PutAll(x, l); e != api.ErrOver {
					t.Errorf("PutAll(%v, %v): %d", x, l, e)
				}
				has(t, b, full)
			}
			if e := c.TakeAll(at(1, 0, 1, 1), l); e != api.ErrItems {
				t.Errorf("TakeAll(%v): %d", l, e)
			}
			has(t, c, thin)
			l[i].Qty = 10
			if e := b.PutAll(at(1, 0, 1, 1), l); e != api.OK || b.Total(many) != most || b.Total(1) != most {
				t.Errorf("PutAll(%v): %d", l, e)
			}
			if e := c.TakeAll(at(1, 0, 1, 1), l); e != api.OK || len(c.List()) != 8-many {
				t.Errorf("TakeAll(%v): %d", l, e)
			}
		}
	}
}

// Bn3: stacks that are none of a list, and divisions that are none, are ErrArg, also where another error would be told.
func TestBn3Arg(t *testing.T) {
	nine := stacks(1, 1, 2, 1, 3, 1, 4, 1, 5, 1, 6, 1, 7, 1, 8, 1, 9, 1)
	bad := [][]api.Stack{
		stacks(0, 1), stacks(33, 1), stacks(-1, 1), stacks(least, 1), stacks(math.MaxInt, 1), stacks(1, 0), stacks(1, -1), stacks(1, least), stacks(1, most+1), stacks(1, math.MaxInt),
		stacks(1, 1, 1, 1), stacks(2, 1, 1, 1), stacks(1, 1, 3, 1, 2, 1), stacks(1, 1, 2, 0), stacks(1, 1, 33, 1), stacks(7, 1, 8, 1, 0, 1), nine,
		stacks(3, most, 2, 1), stacks(3, most, 5, 0), stacks(3, most, 3, 1), stacks(3, most, 33, 1), stacks(3, most, 4, most+1),
	}
	l := of(1, 0, 1, 1, 9, 1, 0, 1, 2, 9, 1, 0, 1, 3, 9, 1, 1, 1, 1, 9)
	b := loaded(t, l)
	for _, x := range bad {
		ahead := slices.Clone(x)
		for what, e := range map[string]api.Errno{"PutAll": b.PutAll(at(1, 0, 1, 1), x), "TakeAll": b.TakeAll(at(1, 0, 1, 1), x)} {
			if e != api.ErrArg {
				t.Errorf("%s(%v): %d, want ErrArg", what, x, e)
			}
		}
		if !slices.Equal(x, ahead) {
			t.Errorf("what was handed in was changed: %v, ahead %v", x, ahead)
		}
		has(t, b, l)
	}
	for _, kind := range types {
		for _, x := range wrong(kind) {
			for _, y := range append(bad, nil, stacks(1, 1), stacks(3, most)) {
				for what, e := range map[string]api.Errno{"PutAll": b.PutAll(x, y), "TakeAll": b.TakeAll(x, y)} {
					if e != api.ErrArg {
						t.Errorf("%s(%v, %v): %d, want ErrArg", what, x, y, e)
					}
				}
			}
		}
	}
	has(t, b, l)
	if e := b.PutAll(at(1, 0, 1, 1), nine[:8]); e != api.OK {
		t.Error("eight", e)
	}
	if e := b.TakeAll(at(1, 0, 1, 1), nine[:8]); e != api.OK {
		t.Error("eight", e)
	}
	has(t, b, l)
}

// Bn3: each division at the edges, told in the chapter's words, with any type.
func TestBn3BinEdges(t *testing.T) {
	edges(func(x api.Bin) {
		b := new(bins.Bins)
		y := at(x.Owner, x.Div, x.Place, 1)
		want, lots := api.ErrArg, []api.Lot(nil)
		if good(y) {
			want, lots = api.OK, []api.Lot{{Bin: y, Qty: 2}, {Bin: at(x.Owner, x.Div, x.Place, 32), Qty: 3}}
		}
		if e := b.PutAll(x, stacks(1, 2, 32, 3)); e != want || !slices.Equal(b.List(), lots) {
			t.Errorf("PutAll(%v): %d, %v, want %d", x, e, b.List(), want)
		}
		if e := b.TakeAll(x, stacks(1, 2, 32, 3)); e != want || len(b.List()) != 0 {
			t.Errorf("TakeAll(%v): %d, %v, want %d", x, e, b.List(), want)
		}
	})
}

// Bn3: stacks behind the list's end are not put, not taken, and not looked at.
func TestBn3End(t *testing.T) {
	b := new(bins.Bins)
	room := stacks(1, 2, 2, 3, 0, -1)
	ahead := slices.Clone(room)
	answers(t, "PutAll", b.PutAll(at(1, 0, 1, 1), room[:2]), api.OK, b, 1, 0, 1, 1, 2, 1, 0, 1, 2, 3)
	answers(t, "TakeAll", b.TakeAll(at(1, 0, 1, 1), room[:1]), api.OK, b, 1, 0, 1, 2, 3)
	if !slices.Equal(room, ahead) {
		t.Errorf("what was handed in was changed: %v", room)
	}
}

// other are bins by another hand: lots in no order, which are gone through, and sums without bounds.
type other struct {
	lots []api.Lot
}

// list are all lots, by their bins.
func (o *other) list() []api.Lot { return byBin(o.lots) }

// clone are others with the same.
func (o *other) clone() *other { return &other{slices.Clone(o.lots)} }

// fits tells whether so many more of a type may be.
func (o *other) fits(kind, n int) bool {
	all := big.NewInt(int64(n))
	for _, x := range o.lots {
		if x.Type == kind {
			all.Add(all, big.NewInt(int64(x.Qty)))
		}
	}
	return all.Cmp(big.NewInt(1<<50)) <= 0
}

// change lets so many more, or fewer, lie in a bin.
func (o *other) change(x api.Bin, n int) {
	for i := range o.lots {
		if o.lots[i].Bin == x {
			o.lots[i].Qty += n
			n = 0
		}
	}
	if n != 0 {
		o.lots = append(o.lots, api.Lot{Bin: x, Qty: n})
	}
	o.lots = slices.DeleteFunc(o.lots, func(y api.Lot) bool { return y.Qty == 0 })
}

func (o *other) put(x api.Bin, n int) api.Errno {
	if !good(x) || n < 0 {
		return api.ErrArg
	}
	if !o.fits(x.Type, n) {
		return api.ErrOver
	}
	o.change(x, n)
	return api.OK
}

func (o *other) take(x api.Bin, n int) api.Errno {
	if !good(x) || n < 0 {
		return api.ErrArg
	}
	if in(o.lots, x) < n {
		return api.ErrItems
	}
	o.change(x, -n)
	return api.OK
}

func (o *other) move(from, to api.Bin, n int) api.Errno {
	if !good(from) || !good(to) || from.Type != to.Type || n < 0 {
		return api.ErrArg
	}
	if in(o.lots, from) < n {
		return api.ErrItems
	}
	o.change(from, -n)
	o.change(to, n)
	return api.OK
}

// listed tells whether stacks may be those of a list, in the words of layer 8.
func listed(l []api.Stack) bool {
	for i, s := range l {
		if s.Type < 1 || s.Type > 32 || s.Qty < 1 || s.Qty > 1<<50 || i > 0 && l[i-1].Type >= s.Type {
			return false
		}
	}
	return len(l) <= 8
}

// all puts, or takes, each of the stacks, when it has looked at all of them ahead.
func (o *other) all(x api.Bin, l []api.Stack, puts bool) api.Errno {
	if !good(at(x.Owner, x.Div, x.Place, 1)) || !listed(l) {
		return api.ErrArg
	}
	for _, s := range l {
		if puts && !o.fits(s.Type, s.Qty) {
			return api.ErrOver
		}
		if !puts && in(o.lots, at(x.Owner, x.Div, x.Place, s.Type)) < s.Qty {
			return api.ErrItems
		}
	}
	for _, s := range l {
		n := s.Qty
		if !puts {
			n = -n
		}
		o.change(at(x.Owner, x.Div, x.Place, s.Type), n)
	}
	return api.OK
}

// some is a bin by chance, mostly one of a few.
func some(r *rand.Rand) api.Bin {
	x := at(r.IntN(2), r.IntN(2), 1+r.IntN(2), 1+r.IntN(3))
	if r.IntN(16) > 0 {
		return x
	}
	return at(owners[r.IntN(len(owners))], divs[r.IntN(len(divs))], places[r.IntN(len(places))], types[r.IntN(len(types))])
}

// amount is a number by chance: at the edges, of any length, or about what lies somewhere.
func amount(r *rand.Rand, o *other) int {
	switch r.IntN(4) {
	case 0:
		return sums[r.IntN(len(sums))]
	case 1:
		return r.IntN(1 << r.IntN(54))
	}
	if len(o.lots) == 0 {
		return r.IntN(9)
	}
	return o.lots[r.IntN(len(o.lots))].Qty + r.IntN(5) - 3
}

// list are up to four stacks by chance, mostly those of a list.
func list(r *rand.Rand, o *other) []api.Stack {
	var l []api.Stack
	for kind := range 4 {
		if r.IntN(2) == 0 {
			l = append(l, stacks(kind+1, amount(r, o)/(1+r.IntN(3)))...)
		}
	}
	if r.IntN(8) == 0 {
		r.Shuffle(len(l), func(i, j int) { l[i], l[j] = l[j], l[i] })
	}
	return l
}

// call does one call by chance to both: its name, and what each answers.
func call(r *rand.Rand, b *bins.Bins, o *other) (what string, got, want api.Errno) {
	x, y, n := some(r), some(r), amount(r, o)
	switch r.IntN(6) {
	case 0:
		return "Put", b.Put(x, n), o.put(x, n)
	case 1:
		return "Take", b.Take(x, n), o.take(x, n)
	case 2:
		if r.IntN(3) > 0 {
			y.Type = x.Type
		}
		return "Move", b.Move(x, y, n), o.move(x, y, n)
	case 3:
		l := list(r, o)
		return "TakeAll", b.TakeAll(x, l), o.all(x, l, false)
	case 4:
		// What lies there can be taken, all of it.
		l := b.Of(x)
		return "TakeAll", b.TakeAll(x, l), o.all(x, l, false)
	}
	l := list(r, o)
	return "PutAll", b.PutAll(x, l), o.all(x, l, true)
}

// Bn4: calls by chance answer what another hand's bins answer; what is moved changes no total, what is refused nothing.
func TestBn4Chance(t *testing.T) {
	r := chance()
	told := map[string]map[api.Errno]int{"Put": {}, "Take": {}, "Move": {}, "PutAll": {}, "TakeAll": {}}
	for range 200 {
		b, o := new(bins.Bins), new(other)
		for range 120 {
			ahead, kept, keptToo := b.List(), b.Clone(), o.clone()
			what, got, want := call(r, b, o)
			if got != want {
				t.Fatalf("%s of %v: %d, want %d", what, ahead, got, want)
			}
			told[what][got]++
			has(t, b, o.list())
			for kind := range 34 {
				if what == "Move" && b.Total(kind) != kept.Total(kind) {
					t.Fatalf("Move of %v: there are %d of %d, ahead %d", ahead, b.Total(kind), kind, kept.Total(kind))
				}
			}
			if got != api.OK && !slices.Equal(b.List(), ahead) {
				t.Fatalf("%s was refused: %v, ahead %v", what, b.List(), ahead)
			}
			has(t, kept, ahead)
			// Now and then the clone goes on.
			if r.IntN(10) == 0 {
				b, o = kept, keptToo
			}
			if t.Failed() {
				t.Fatalf("behind %s of %v", what, ahead)
			}
		}
		again(t, r, b)
	}
	for what, l := range map[string][]api.Errno{
		"Put": {api.OK, api.ErrArg, api.ErrOver}, "Take": {api.OK, api.ErrArg, api.ErrItems}, "Move": {api.OK, api.ErrArg, api.ErrItems}, "PutAll": {api.OK, api.ErrArg, api.ErrOver}, "TakeAll": {api.OK, api.ErrArg, api.ErrItems},
	} {
		for _, e := range l {
			if told[what][e] < 20 {
				t.Errorf("%s answered %d %d times alone", what, e, told[what][e])
			}
		}
	}
}

// again loads what lies in bins, in any order: the same is there again.
func again(t *testing.T, r *rand.Rand, b *bins.Bins) {
	t.Helper()
	l := b.List()
	r.Shuffle(len(l), func(i, j int) { l[i], l[j] = l[j], l[i] })
	has(t, loaded(t, l), b.List())
}

// Bn4: all rows of three calls, of few bins and numbers, are as another hand's.
func TestBn4Rows(t *testing.T) {
	type both func(b *bins.Bins, o *other) (api.Errno, api.Errno)
	var calls []both
	x, y := at(1, 0, 1, 1), at(1, 0, 2, 1)
	for _, n := range []int{-1, 1, most} {
		for _, z := range []api.Bin{x, y, at(1, 0, 0, 1)} {
			calls = append(calls, func(b *bins.Bins, o *other) (api.Errno, api.Errno) { return b.Put(z, n), o.put(z, n) })
			calls = append(calls, func(b *bins.Bins, o *other) (api.Errno, api.Errno) { return b.Take(z, n), o.take(z, n) })
			calls = append(calls, func(b *bins.Bins, o *other) (api.Errno, api.Errno) { return b.Move(x, z, n), o.move(x, z, n) })
		}
		l := stacks(1, 1, 2, n)
		calls = append(calls, func(b *bins.Bins, o *other) (api.Errno, api.Errno) { return b.PutAll(x, l), o.all(x, l, true) })
		calls = append(calls, func(b *bins.Bins, o *other) (api.Errno, api.Errno) { return b.TakeAll(x, l), o.all(x, l, false) })
	}
	for i, first := range calls {
		for j, second := range calls {
			for k, third := range calls {
				b, o := loaded(t, of(1, 0, 1, 1, 1)), &other{of(1, 0, 1, 1, 1)}
				for _, do := range []both{first, second, third} {
					got, want := do(b, o)
					if got != want || !slices.Equal(b.List(), o.list()) {
						t.Fatalf("the calls %d, %d, %d: %d, %v, want %d, %v", i, j, k, got, b.List(), want, o.list())
					}
				}
			}
		}
	}
}

// Bn4: what is put is taken again, to the last one, all at once or bit by bit.
func TestBn4Back(t *testing.T) {
	r := chance()
	for range 200 {
		b, ahead := loaded(t, start()), start()
		x, n := some(r), 1+r.IntN(1<<r.IntN(50))
		if b.Put(x, n) != api.OK {
			has(t, b, ahead)
			continue
		}
		for n > 0 {
			part := 1 + r.IntN(n)
			n -= part
			if e := b.Take(x, part); e != api.OK {
				t.Fatal(x, part, e)
			}
		}
		has(t, b, ahead)
		l := list(r, new(other))
		if b.PutAll(x, l) == api.OK && b.TakeAll(x, l) != api.OK {
			t.Error(x, l)
		}
		has(t, b, ahead)
	}
}
