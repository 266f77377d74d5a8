package bom_test

import (
	"bottomry/api"
	"bottomry/bom"
	"bottomry/catalog"
	"math"
	"math/big"
	"math/rand/v2"
	"slices"
	"testing"
)

const (
	most  = api.MaxQty
	span  = api.MaxSpan
	least = math.MinInt
)

// chance are numbers that are the same at each run.
func chance() *rand.Rand { return rand.New(rand.NewPCG(15, 40)) }

// of are stacks: a type, how many of it, and so on.
func of(n ...int) []api.Stack {
	var l []api.Stack
	for k := 0; k+1 < len(n); k += 2 {
		l = append(l, api.Stack{Type: n[k], Qty: n[k+1]})
	}
	return l
}

// ones are stacks, one of each of so many types.
func ones(n int) []api.Stack {
	var l []api.Stack
	for k := range n {
		l = append(l, api.Stack{Type: k + 1, Qty: 1})
	}
	return l
}

// blue is a blueprint: what it makes, how many in a run, how long that takes, and what it needs.
func blue(makes, per, time int, needs ...int) api.Blue {
	return api.Blue{Makes: makes, Per: per, Time: time, Needs: of(needs...), Most: 1}
}

// bare is a catalogue of so many types, with blueprints and little else.
func bare(types int, blues ...api.Blue) api.Catalog {
	return api.Catalog{Types: types, Blues: blues, Places: 1, Chars: 1}
}

// row is a catalogue in which each type needs the next one, so deep.
func row(deep int) api.Catalog {
	c := bare(deep + 1)
	for k := range deep {
		c.Blues = append(c.Blues, blue(k+1, 1, 10, k+2, 1))
	}
	return c
}

// ship is a catalogue with something of everything: 5 is made of 3 and 4, these of 1 and 2, and 3 also of nothing.
func ship() api.Catalog {
	return bare(5, blue(5, 1, 100, 3, 2, 4, 3), blue(4, 10, 20, 1, 7), blue(3, 1, 5, 1, 1, 2, 4), blue(3, 9, 1))
}

// copied is a catalogue that shares nothing with another one.
func copied(c api.Catalog) api.Catalog {
	c.Blues, c.Bays = slices.Clone(c.Blues), slices.Clone(c.Bays)
	for k := range c.Blues {
		c.Blues[k].Needs = slices.Clone(c.Blues[k].Needs)
	}
	return c
}

// sameBlue, sameCatalog and same tell whether two are the same; nil and the empty list are.
func sameBlue(a, b api.Blue) bool {
	return a.Makes == b.Makes && a.Per == b.Per && a.Time == b.Time && slices.Equal(a.Needs, b.Needs) && a.Copy == b.Copy && a.Study == b.Study && a.Most == b.Most
}

func sameCatalog(a, b api.Catalog) bool {
	return a.Types == b.Types && slices.EqualFunc(a.Blues, b.Blues, sameBlue) && a.Places == b.Places && slices.Equal(a.Bays, b.Bays) && a.Chars == b.Chars && a.Fees == b.Fees
}

func same(a, b api.Bom) bool {
	return slices.Equal(a.Raw, b.Raw) && slices.Equal(a.Runs, b.Runs) && slices.Equal(a.Left, b.Left)
}

// ask is what is asked of a catalogue: so many of a type, at a level, with what is there.
type ask struct {
	kind, n, level int
	have           []api.Stack
}

// wrong are catalogues that may not be, and why not.
func wrong() []struct {
	c api.Catalog
	e api.Errno
} {
	chars := ship()
	chars.Chars = 0
	types := ship()
	types.Types = 4
	return []struct {
		c api.Catalog
		e api.Errno
	}{
		{api.Catalog{}, api.ErrArg},
		{chars, api.ErrArg},
		{types, api.ErrArg},
		{bare(33), api.ErrArg},
		{bare(2, blue(1, 0, 1)), api.ErrArg},
		{bare(1, slices.Repeat([]api.Blue{blue(1, 1, 1)}, 17)...), api.ErrArg},
		{bare(2, blue(1, 1, 1, 2, 1), blue(2, 1, 1, 1, 1)), api.ErrState},
		{bare(3, blue(3, 1, 1), blue(1, 1, 1, 2, 1), blue(2, 1, 1), blue(2, 1, 1, 1, 1)), api.ErrState}, // also by a blueprint that is no type's maker
		{row(9), api.ErrOver},
		{row(10), api.ErrOver},
	}
}

// wrongLists are stacks that are none of a list, of 5 types.
func wrongLists() [][]api.Stack {
	return [][]api.Stack{
		of(0, 1), of(-1, 1), of(least, 1), of(6, 1), of(math.MaxInt, 1), of(1, 1, 6, 1),
		of(1, 0), of(1, -1), of(1, least), of(1, most+1), of(1, math.MaxInt), of(1, 1, 2, 0), of(1, 1, 2, most+1),
		of(2, 1, 1, 1), of(1, 1, 1, 1), of(1, 1, 3, 1, 2, 1), of(1, 1, 2, 1, 2, 1),
		ones(6), ones(9), ones(40), make([]api.Stack, 1), make([]api.Stack, 9),
	}
}

// isList tells whether stacks are those of a list, of so many types, in the words of layer 8.
func isList(l []api.Stack, types int) bool {
	for k, s := range l {
		if s.Type < 1 || s.Type > types || s.Qty < 1 || s.Qty > 1<<50 || k > 0 && l[k-1].Type >= s.Type {
			return false
		}
	}
	return len(l) <= 8
}

// may tells whether a thing may be asked of a catalogue that may be.
func (a ask) may(c api.Catalog) bool {
	return a.kind >= 1 && a.kind <= c.Types && a.n >= 1 && a.n <= 1<<50 && a.level >= 0 && a.level <= 10 && isList(a.have, c.Types)
}

// areRuns tells whether numbers may be runs of a catalogue.
func areRuns(c api.Catalog, runs []int) bool {
	return len(runs) == len(c.Blues) && !slices.ContainsFunc(runs, func(n int) bool { return n < 0 || n > 1000 })
}

// maker is the place of the first blueprint that makes a type; -1, if none does.
func maker(c api.Catalog, kind int) int {
	for k, b := range c.Blues {
		if b.Makes == kind {
			return k
		}
	}
	return -1
}

// qty is how many there are of a type.
func qty(l []api.Stack, kind int) int {
	n := 0
	for _, s := range l {
		if s.Type == kind {
			n += s.Qty
		}
	}
	return n
}

// up is the product of numbers, by another one, rounded up.
func up(by int, first *big.Int, l ...int) *big.Int {
	n := new(big.Int).Set(first)
	for _, m := range l {
		n.Mul(n, big.NewInt(int64(m)))
	}
	n.Add(n, big.NewInt(int64(by-1)))
	return n.Div(n, big.NewInt(int64(by)))
}

// need is how many of a type so many runs need, of each so many, in the words of layer 12.
func need(runs *big.Int, qty, level int) *big.Int {
	n := up(100, runs, qty, 100-level)
	if n.Cmp(runs) < 0 {
		n.Set(runs)
	}
	return n
}

// lasts is how long so many runs of a blueprint take, in the words of layer 12.
func lasts(b api.Blue, level, runs int) int { return (b.Time*runs*(100-2*level) + 99) / 100 }

// puller is Expand by another hand: it asks of each type who wants it, and of each blueprint how many it is to make, in numbers without bounds; what is too great is told as all is done.
type puller struct {
	c    api.Catalog
	a    ask
	runs []*big.Int
	over bool
}

// upTo is a number, which is to be no greater than another one.
func (x *puller) upTo(n *big.Int, most int64) *big.Int {
	x.over = x.over || n.Cmp(big.NewInt(most)) > 0
	return n
}

// lacks are how many of a type are wanted that are not there.
func (x *puller) lacks(kind int) *big.Int {
	sum := new(big.Int)
	if kind == x.a.kind {
		sum.SetInt64(int64(x.a.n))
	}
	for k, b := range x.c.Blues {
		for _, s := range b.Needs {
			if s.Type == kind {
				sum.Add(sum, x.upTo(need(x.run(k), s.Qty, x.a.level), 1<<50))
			}
		}
	}
	x.upTo(sum, 1<<50)
	sum.Sub(sum, big.NewInt(int64(qty(x.a.have, kind))))
	if sum.Sign() < 0 {
		sum.SetInt64(0)
	}
	return sum
}

// run are the runs of the blueprint at a place.
func (x *puller) run(k int) *big.Int {
	if x.runs[k] != nil {
		return x.runs[k]
	}
	b := x.c.Blues[k]
	x.runs[k] = new(big.Int)
	if maker(x.c, b.Makes) == k {
		x.runs[k] = x.upTo(up(b.Per, x.lacks(b.Makes)), 1000)
	}
	return x.runs[k]
}

// expand is what Expand is to answer.
func expand(c api.Catalog, a ask) (api.Bom, api.Errno) {
	if e := catalog.Check(c); e != api.OK {
		return api.Bom{}, e
	}
	if !a.may(c) {
		return api.Bom{}, api.ErrArg
	}
	x := &puller{c: c, a: a, runs: make([]*big.Int, len(c.Blues))}
	var told api.Bom
	for k := range c.Blues {
		told.Runs = append(told.Runs, int(x.run(k).Int64()))
	}
	for kind := 1; kind <= c.Types; kind++ {
		lack := int(x.lacks(kind).Int64())
		if k := maker(c, kind); k < 0 && lack > 0 {
			told.Raw = append(told.Raw, api.Stack{Type: kind, Qty: lack})
		} else if k >= 0 && told.Runs[k]*c.Blues[k].Per > lack {
			told.Left = append(told.Left, api.Stack{Type: kind, Qty: told.Runs[k]*c.Blues[k].Per - lack})
		}
	}
	if x.over {
		return api.Bom{}, api.ErrOver
	}
	return told, api.OK
}

// path and whole are what Path and Whole are to answer.
func path(c api.Catalog, kind int, runs []int, level int) (int, api.Errno) {
	if e := catalog.Check(c); e != api.OK {
		return 0, e
	}
	if kind < 1 || kind > c.Types || !areRuns(c, runs) || level < 0 || level > 10 {
		return 0, api.ErrArg
	}
	var from func(kind int) int
	from = func(kind int) int {
		k := maker(c, kind)
		if k < 0 || runs[k] == 0 {
			return 0
		}
		longest := 0
		for _, s := range c.Blues[k].Needs {
			longest = max(longest, from(s.Type))
		}
		return lasts(c.Blues[k], level, runs[k]) + longest
	}
	return from(kind), api.OK
}

func whole(c api.Catalog, runs []int, level int) (int, api.Errno) {
	if e := catalog.Check(c); e != api.OK {
		return 0, e
	}
	if !areRuns(c, runs) || level < 0 || level > 10 {
		return 0, api.ErrArg
	}
	sum := 0
	for k, n := range runs {
		sum += lasts(c.Blues[k], level, n)
	}
	return sum, api.OK
}

// fits is what Fits is to answer: type by type it is reckoned what there is, and what is needed.
func fits(c api.Catalog, a ask, runs []int) bool {
	if catalog.Check(c) != api.OK || !a.may(c) || !areRuns(c, runs) {
		return false
	}
	for kind := 1; kind <= c.Types; kind++ {
		rest := big.NewInt(int64(qty(a.have, kind)))
		if kind == a.kind {
			rest.Sub(rest, big.NewInt(int64(a.n)))
		}
		for k, b := range c.Blues {
			if b.Makes == kind {
				rest.Add(rest, big.NewInt(int64(runs[k]*b.Per)))
			}
			if n := qty(b.Needs, kind); n > 0 {
				all := need(big.NewInt(int64(runs[k])), n, a.level)
				if all.Cmp(big.NewInt(1<<50)) > 0 {
					return false
				}
				rest.Sub(rest, all)
			}
		}
		if rest.Sign() < 0 {
			return false
		}
	}
	return true
}

// expanded holds Expand against what is wanted, and tells what it answered.
func expanded(t *testing.T, what string, c api.Catalog, a ask, want api.Bom, err api.Errno) api.Bom {
	t.Helper()
	x, e := bom.Expand(c, a.kind, a.n, a.level, a.have)
	if !same(x, want) || e != err {
		t.Errorf("%s: Expand of %v, %v: %v, %d, want %v, %d", what, c, a, x, e, want, err)
	}
	return x
}

// timed holds Path and Whole against another hand.
func timed(t *testing.T, what string, c api.Catalog, kind int, runs []int, level int) {
	t.Helper()
	want, err := path(c, kind, runs, level)
	if n, e := bom.Path(c, kind, runs, level); n != want || e != err {
		t.Errorf("%s: Path of %v, %d, %v, %d: %d, %d, want %d, %d", what, c, kind, runs, level, n, e, want, err)
	}
	want, err = whole(c, runs, level)
	if n, e := bom.Whole(c, runs, level); n != want || e != err {
		t.Errorf("%s: Whole of %v, %v, %d: %d, %d, want %d, %d", what, c, runs, level, n, e, want, err)
	}
}

// fitted holds Fits against what is wanted.
func fitted(t *testing.T, what string, c api.Catalog, a ask, runs []int, want bool) {
	t.Helper()
	if is := bom.Fits(c, a.kind, a.n, a.level, a.have, runs); is != want {
		t.Errorf("%s: Fits of %v, %v, %v: %t", what, c, a, runs, is)
	}
}

// all holds all calls against another hand, whatever is asked.
func all(t *testing.T, what string, c api.Catalog, a ask, runs []int) {
	t.Helper()
	want, err := expand(c, a)
	expanded(t, what, c, a, want, err)
	timed(t, what, c, a.kind, runs, a.level)
	fitted(t, what, c, a, runs, fits(c, a, runs))
}

// Bo1: bills that are written out.
func TestBo1Written(t *testing.T) {
	c := ship()
	pair := bare(3, blue(3, 1, 1, 2, 2), blue(2, 5, 1, 1, 3)) // the chapter's example
	// 4 needs 2 and 3, both of these need 1, of which 10 are made in a run of 5.
	fork := bare(5, blue(1, 10, 1, 5, 7), blue(2, 1, 1, 1, 4), blue(3, 1, 1, 1, 5), blue(4, 1, 1, 2, 1, 3, 1))
	// 3 is wanted beside 2, which needs it, too: it is told behind 2, though 1 names it first.
	late := bare(4, blue(3, 10, 1, 4, 1), blue(1, 1, 1, 2, 1, 3, 1), blue(2, 1, 1, 3, 9))
	for _, x := range []struct {
		c         api.Catalog
		a         ask
		raw       []api.Stack
		runs      []int
		left      []api.Stack
		whatStays string
	}{
		{pair, ask{3, 1, 0, nil}, of(1, 3), []int{1, 1}, of(2, 3), "the chapter's example"},
		{pair, ask{3, 2, 0, nil}, of(1, 3), []int{2, 1}, of(2, 1), "still of one run"},
		{pair, ask{3, 3, 0, nil}, of(1, 6), []int{3, 2}, of(2, 4), "one run more"},
		{pair, ask{3, 5, 0, nil}, of(1, 6), []int{5, 2}, nil, "nothing is left"},
		{pair, ask{2, 5, 0, nil}, of(1, 3), []int{0, 1}, nil, "from further down"},
		{pair, ask{2, 6, 0, nil}, of(1, 6), []int{0, 2}, of(2, 4), "of what is asked for some is left"},
		{pair, ask{1, 7, 0, nil}, of(1, 7), []int{0, 0}, nil, "none makes it"},
		{pair, ask{3, 1, 0, of(2, 1)}, of(1, 3), []int{1, 1}, of(2, 4), "one is there"},
		{pair, ask{3, 1, 0, of(2, 2)}, nil, []int{1, 0}, nil, "just enough is there"},
		{pair, ask{3, 1, 0, of(2, 3)}, nil, []int{1, 0}, nil, "what is there and not taken is not left over"},
		{pair, ask{3, 1, 0, of(1, 1)}, of(1, 2), []int{1, 1}, of(2, 3), "one of the raw ones is there"},
		{pair, ask{3, 1, 0, of(1, 3)}, nil, []int{1, 1}, of(2, 3), "all raw ones are there"},
		{pair, ask{3, 1, 0, of(1, 99)}, nil, []int{1, 1}, of(2, 3), "more than all"},
		{pair, ask{3, 4, 0, of(3, 1)}, of(1, 6), []int{3, 2}, of(2, 4), "one of the kind is there"},
		{pair, ask{3, 4, 0, of(3, 4)}, nil, []int{0, 0}, nil, "all of the kind"},
		{pair, ask{3, 4, 0, of(1, 1, 2, 1, 3, 9)}, nil, []int{0, 0}, nil, "more than all of the kind"},
		{pair, ask{2, 1, 0, of(3, 9)}, of(1, 3), []int{0, 1}, of(2, 4), "what needs it does not help"},
		{pair, ask{1, 7, 0, of(1, 2)}, of(1, 5), []int{0, 0}, nil, "none makes it, some are there"},
		{pair, ask{1, 7, 0, of(1, 8)}, nil, []int{0, 0}, nil, "none makes it, enough are there"},
		{c, ask{5, 4, 0, of(3, 3, 4, 1)}, of(1, 19, 2, 20), []int{4, 2, 5, 0}, of(4, 9), "the least number is the maker's"},
		{c, ask{3, 9, 0, nil}, of(1, 9, 2, 36), []int{0, 0, 9, 0}, nil, "the fourth one is no maker"},
		{fork, ask{4, 1, 0, nil}, of(5, 7), []int{1, 1, 1, 1}, of(1, 1), "of both together: one run"},
		{fork, ask{4, 2, 0, nil}, of(5, 14), []int{2, 2, 2, 2}, of(1, 2), "18 of 20"},
		{fork, ask{4, 10, 0, nil}, of(5, 63), []int{9, 10, 10, 10}, nil, "90 of 90"},
		{fork, ask{4, 10, 0, of(2, 10, 5, 60)}, nil, []int{5, 0, 10, 10}, nil, "one way is there"},
		{late, ask{1, 1, 0, nil}, of(4, 1), []int{1, 1, 1}, nil, "it waits for all that want it"},
		{bare(3), ask{2, 5, 3, nil}, of(2, 5), nil, nil, "without blueprints"},
		{bare(1), ask{1, most, 0, nil}, of(1, most), nil, nil, "so many there may be"},
		{bare(1), ask{1, most, 0, of(1, most-1)}, of(1, 1), nil, nil, "one is missing"},
		{bare(1, blue(1, 3, 1)), ask{1, 7, 0, nil}, nil, []int{3}, of(1, 2), "of nothing"},
	} {
		expanded(t, x.whatStays, x.c, x.a, api.Bom{Raw: x.raw, Runs: x.runs, Left: x.left}, api.OK)
		want, e := expand(x.c, x.a)
		if !same(want, api.Bom{Raw: x.raw, Runs: x.runs, Left: x.left}) || e != api.OK {
			t.Errorf("%s: the other hand: %v, %d", x.whatStays, want, e)
		}
	}
}

// Bo1: the level of material is that of all runs, and goes down all the way.
func TestBo1Level(t *testing.T) {
	c := bare(3, blue(3, 1, 1, 2, 10), blue(2, 1, 1, 1, 100))
	for _, x := range []struct {
		n, level, second, first int
	}{
		{1, 0, 10, 1000}, {3, 5, 29, 2755}, {1, 5, 10, 950}, {3, 10, 27, 2430}, {10, 1, 99, 9801}, {7, 3, 68, 6596},
	} {
		expanded(t, "level", c, ask{3, x.n, x.level, nil}, api.Bom{Raw: of(1, x.first), Runs: []int{x.n, x.second}}, api.OK)
	}
	// Each run needs one of all.
	expanded(t, "one each", bare(2, blue(2, 1, 1, 1, 1)), ask{2, 1000, 10, nil}, api.Bom{Raw: of(1, 1000), Runs: []int{1000}}, api.OK)
	expanded(t, "two each", bare(2, blue(2, 1, 1, 1, 2)), ask{2, 1000, 10, nil}, api.Bom{Raw: of(1, 1800), Runs: []int{1000}}, api.OK)
}

// Bo1: what is raw, and what is left, rises by types, whatever needs what; and there may be more of them than in a list.
func TestBo1Normal(t *testing.T) {
	c := bare(20, blue(20, 1, 1, 1, 1, 3, 2, 5, 3, 7, 4, 9, 5, 11, 6, 13, 7, 15, 8), blue(1, 5, 1, 18, 9, 19, 1), blue(15, 3, 1, 2, 2, 4, 1), blue(3, 7, 1, 14, 3))
	want := api.Bom{
		Raw:  of(2, 6, 4, 3, 5, 3, 7, 4, 9, 5, 11, 6, 13, 7, 14, 3, 18, 9, 19, 1),
		Runs: []int{1, 1, 3, 1},
		Left: of(1, 4, 3, 5, 15, 1),
	}
	expanded(t, "many", c, ask{20, 1, 0, nil}, want, api.OK)
}

// Bo1: how many runs there may be of a blueprint.
func TestBo1Runs(t *testing.T) {
	c := bare(3, blue(3, 1, 1, 2, 4), blue(2, 2, 1, 1, 1))
	wide := bare(1, blue(1, span, 1))
	none := api.Bom{}
	for _, x := range []struct {
		c api.Catalog
		a ask
		x api.Bom
		e api.Errno
	}{
		{c, ask{3, 500, 0, nil}, api.Bom{Raw: of(1, 1000), Runs: []int{500, 1000}}, api.OK},
		{c, ask{3, 501, 0, nil}, none, api.ErrOver}, // 1002 of the second one
		{c, ask{3, 501, 0, of(2, 3)}, none, api.ErrOver},
		{c, ask{3, 501, 0, of(2, 4)}, api.Bom{Raw: of(1, 1000), Runs: []int{501, 1000}}, api.OK},
		{c, ask{3, 501, 0, of(3, 1)}, api.Bom{Raw: of(1, 1000), Runs: []int{500, 1000}}, api.OK},
		{c, ask{3, 501, 1, nil}, api.Bom{Raw: of(1, 992), Runs: []int{501, 992}}, api.OK}, // 1984 of the second one
		{c, ask{3, 1001, 0, of(2, most)}, none, api.ErrOver},
		{c, ask{3, 1000, 0, of(2, most)}, api.Bom{Runs: []int{1000, 0}}, api.OK},
		{c, ask{3, 1000, 0, of(2, 2000)}, api.Bom{Raw: of(1, 1000), Runs: []int{1000, 1000}}, api.OK},
		{c, ask{3, 1000, 0, of(2, 1999)}, none, api.ErrOver},
		{c, ask{2, 2000, 0, nil}, api.Bom{Raw: of(1, 1000), Runs: []int{0, 1000}}, api.OK},
		{c, ask{2, 1999, 0, nil}, api.Bom{Raw: of(1, 1000), Runs: []int{0, 1000}, Left: of(2, 1)}, api.OK},
		{c, ask{2, 2001, 0, nil}, none, api.ErrOver},
		{c, ask{2, most, 0, nil}, none, api.ErrOver},
		{c, ask{2, most, 0, of(2, most)}, api.Bom{Runs: []int{0, 0}}, api.OK},
		{c, ask{2, most, 0, of(2, most-2000)}, api.Bom{Raw: of(1, 1000), Runs: []int{0, 1000}}, api.OK},
		{c, ask{2, most, 0, of(2, most-2001)}, none, api.ErrOver},
		{wide, ask{1, 1000 * span, 0, nil}, api.Bom{Runs: []int{1000}}, api.OK},
		{wide, ask{1, 1000*span + 1, 0, nil}, none, api.ErrOver},
		{wide, ask{1, 999*span + 1, 0, nil}, api.Bom{Runs: []int{1000}, Left: of(1, span-1)}, api.OK},
	} {
		expanded(t, "runs", x.c, x.a, x.x, x.e)
	}
}

// Bo1: how many may be wanted of a type.
func TestBo1Over(t *testing.T) {
	half := most / 2
	alone := func(qty int) api.Catalog { return bare(2, blue(2, 1, 1, 1, qty)) }
	// 4 needs 2 and 3, which need so many of 1 each.
	both := func(first, second int) api.Catalog {
		return bare(4, blue(4, 1, 1, 2, 1, 3, 1), blue(2, 1, 1, 1, first), blue(3, 1, 1, 1, second))
	}
	// 2 needs 1; 1 is made, too.
	made := bare(3, blue(2, 1, 1, 1, most), blue(1, span, 1, 3, 1))
	none := api.Bom{}
	for _, x := range []struct {
		c api.Catalog
		a ask
		x api.Bom
		e api.Errno
	}{
		{alone(most), ask{2, 1, 0, nil}, api.Bom{Raw: of(1, most), Runs: []int{1}}, api.OK},
		{alone(most), ask{2, 2, 0, nil}, none, api.ErrOver},
		{alone(half), ask{2, 2, 0, nil}, api.Bom{Raw: of(1, most), Runs: []int{2}}, api.OK},
		{alone(half + 1), ask{2, 2, 0, nil}, none, api.ErrOver},
		{alone(half + 1), ask{2, 2, 0, of(1, most)}, none, api.ErrOver}, // what is there is taken of what is wanted
		{alone(half + 1), ask{2, 2, 0, of(2, 1)}, api.Bom{Raw: of(1, half+1), Runs: []int{1}}, api.OK},
		{alone(half + 1), ask{2, 2, 1, nil}, api.Bom{Raw: of(1, most+2-(most+2)/100), Runs: []int{2}}, api.OK},
		{both(half, half), ask{4, 1, 0, nil}, api.Bom{Raw: of(1, most), Runs: []int{1, 1, 1}}, api.OK},
		{both(half, half+1), ask{4, 1, 0, nil}, none, api.ErrOver},
		{both(half+1, half), ask{4, 1, 0, nil}, none, api.ErrOver},
		{both(1, most), ask{4, 1, 0, nil}, none, api.ErrOver},
		{both(most, most), ask{4, 1, 0, nil}, none, api.ErrOver},
		{both(most, most), ask{4, 1, 0, of(1, most)}, none, api.ErrOver},
		{both(most, most), ask{4, 1, 0, of(1, most, 2, 1)}, api.Bom{Runs: []int{1, 0, 1}}, api.OK},
		{both(1, most-1), ask{4, 1, 0, of(1, 7)}, api.Bom{Raw: of(1, most-7), Runs: []int{1, 1, 1}}, api.OK},
		{made, ask{2, 1, 0, of(1, most-1)}, api.Bom{Raw: of(3, 1), Runs: []int{1, 1}, Left: of(1, span-1)}, api.OK},
		{made, ask{2, 1, 0, of(1, most)}, api.Bom{Runs: []int{1, 0}}, api.OK},
		{made, ask{2, 1, 0, of(1, most-1000*span)}, api.Bom{Raw: of(3, 1000), Runs: []int{1, 1000}}, api.OK},
		{made, ask{2, 1, 0, of(1, most-1000*span-1)}, none, api.ErrOver},
		{made, ask{2, 1, 0, nil}, none, api.ErrOver},
	} {
		expanded(t, "over", x.c, x.a, x.x, x.e)
	}
	// As many as there may be want of one: 15 times so much is no number that went round.
	c := bare(32)
	for k := range 15 {
		c.Blues = append(c.Blues, blue(10+k, 1, 1, 1, most))
	}
	c.Blues = append(c.Blues, blue(9, 1, 1, 10, 1, 11, 1, 12, 1, 13, 1, 14, 1, 15, 1, 16, 1, 17, 1))
	expanded(t, "eight times", c, ask{9, 1, 0, nil}, none, api.ErrOver)
	expanded(t, "once", c, ask{9, 1, 0, of(10, 1, 11, 1, 12, 1, 13, 1, 14, 1, 15, 1, 16, 1)}, api.Bom{Raw: of(1, most), Runs: []int{0, 0, 0, 0, 0, 0, 0, 1, 0, 0, 0, 0, 0, 0, 0, 1}}, api.OK)
}

// Bo1: what may not be asked; ErrArg is told ahead of ErrOver, and nothing beside an error.
func TestBo1Arg(t *testing.T) {
	c := ship()
	for _, x := range []struct {
		kind, n, level int
		e              api.Errno
	}{
		{1, 1, 0, api.OK}, {5, 1, 0, api.OK}, {1, most, 0, api.OK}, {1, 1, 10, api.OK}, {5, 1000, 10, api.ErrOver}, {5, 333, 0, api.OK},
		{0, 1, 0, api.ErrArg}, {-1, 1, 0, api.ErrArg}, {6, 1, 0, api.ErrArg}, {32, 1, 0, api.ErrArg}, {33, 1, 0, api.ErrArg}, {least, 1, 0, api.ErrArg}, {math.MaxInt, 1, 0, api.ErrArg},
		{1, 0, 0, api.ErrArg}, {1, -1, 0, api.ErrArg}, {1, least, 0, api.ErrArg}, {1, most + 1, 0, api.ErrArg}, {1, math.MaxInt, 0, api.ErrArg}, {5, most + 1, 0, api.ErrArg},
		{1, 1, -1, api.ErrArg}, {1, 1, 11, api.ErrArg}, {1, 1, least, api.ErrArg}, {1, 1, math.MaxInt, api.ErrArg}, {5, 1001, 11, api.ErrArg}, {5, 1001, 10, api.ErrOver},
	} {
		a := ask{x.kind, x.n, x.level, nil}
		y, e := bom.Expand(c, a.kind, a.n, a.level, a.have)
		if want, err := expand(c, a); e != x.e || err != x.e || !same(y, want) {
			t.Errorf("Expand of %v: %v, %d, want %v, %d", a, y, e, want, x.e)
		}
		if e != api.OK && (y.Raw != nil || y.Runs != nil || y.Left != nil) {
			t.Errorf("Expand of %v: %v beside %d", a, y, e)
		}
	}
	for _, l := range wrongLists() {
		for _, a := range []ask{{5, 1, 0, l}, {1, 1, 0, l}, {5, 1001, 0, l}, {5, most, 10, l}} {
			expanded(t, "no list", c, a, api.Bom{}, api.ErrArg)
		}
	}
	many := bare(32)
	expanded(t, "eight stacks", many, ask{9, 1, 0, ones(8)}, api.Bom{Raw: of(9, 1)}, api.OK)
	expanded(t, "nine stacks", many, ask{9, 1, 0, ones(9)}, api.Bom{}, api.ErrArg)
	expanded(t, "the last type", many, ask{32, 3, 0, of(31, 5, 32, 1)}, api.Bom{Raw: of(32, 2)}, api.OK)
	expanded(t, "beyond it", many, ask{32, 3, 0, of(33, 1)}, api.Bom{}, api.ErrArg)
}

// Bo1 to Bo3: the catalogue's error is told first, whatever else may not be.
func TestWrongCatalogues(t *testing.T) {
	for _, x := range wrong() {
		if e := catalog.Check(x.c); e != x.e {
			t.Fatalf("Check of %v: %d", x.c, e)
		}
		fine := make([]int, len(x.c.Blues))
		for _, a := range []ask{{1, 1, 0, nil}, {0, 1, 0, nil}, {1, 0, 0, nil}, {1, 1, 11, nil}, {1, most, 0, nil}, {1, 1, 0, of(99, 1)}, {least, least, least, of(0, 0)}} {
			expanded(t, "wrong", x.c, a, api.Bom{}, x.e)
			for _, runs := range [][]int{fine, nil, append(fine, 0), {-1}} {
				if n, e := bom.Path(x.c, a.kind, runs, a.level); n != 0 || e != x.e {
					t.Errorf("Path of %v, %v: %d, %d", x.c, a, n, e)
				}
				if n, e := bom.Whole(x.c, runs, a.level); n != 0 || e != x.e {
					t.Errorf("Whole of %v, %v: %d, %d", x.c, a, n, e)
				}
				fitted(t, "wrong", x.c, a, runs, false)
				fitted(t, "wrong", x.c, ask{1, 1, 0, of(1, 1)}, runs, false)
			}
		}
	}
	expanded(t, "as deep as may be", row(8), ask{1, 3, 0, nil}, api.Bom{Raw: of(9, 3), Runs: []int{3, 3, 3, 3, 3, 3, 3, 3}}, api.OK)
}

// Bo2: times that are written out.
func TestBo2Written(t *testing.T) {
	c := ship()
	alone := bare(2, blue(2, 1, 60, 1, 1))
	for _, x := range []struct {
		c           api.Catalog
		kind        int
		runs        []int
		level       int
		path, whole int
	}{
		{c, 5, []int{4, 2, 5, 0}, 0, 440, 465},
		{c, 5, []int{4, 1, 5, 0}, 0, 425, 445}, // 5 runs of 5 are longer than one of 20
		{c, 5, []int{4, 2, 5, 7}, 0, 440, 472}, // who is no maker is not on the path
		{c, 5, []int{4, 0, 0, 7}, 0, 400, 407},
		{c, 3, []int{4, 2, 5, 7}, 0, 25, 472},
		{c, 3, []int{4, 2, 0, 7}, 0, 0, 447},
		{c, 4, []int{4, 2, 5, 7}, 0, 40, 472},
		{c, 1, []int{4, 2, 5, 7}, 0, 0, 472}, // none makes it
		{c, 2, []int{1, 1, 1, 1}, 0, 0, 126},
		{c, 5, []int{0, 2, 5, 7}, 0, 0, 72}, // nothing is behind what has no runs
		{c, 5, []int{0, 0, 0, 0}, 0, 0, 0},
		{c, 5, []int{1000, 1000, 1000, 1000}, 0, 120000, 126000},
		{c, 5, []int{1, 1, 1, 1}, 10, 80 + 16, 80 + 16 + 4 + 1},
		{c, 5, []int{1, 1, 1, 1}, 1, 98 + 20, 98 + 20 + 5 + 1},
		{alone, 2, []int{1}, 1, 59, 59}, // 58.8
		{alone, 2, []int{5}, 1, 294, 294},
		{alone, 2, []int{1}, 10, 48, 48},
		{bare(3), 2, nil, 0, 0, 0},
		{row(8), 1, []int{1, 1, 1, 1, 1, 1, 1, 1}, 0, 80, 80},
		{row(8), 1, []int{1, 2, 3, 4, 0, 6, 7, 8}, 0, 100, 310}, // the row is cut
		{row(8), 6, []int{1, 2, 3, 4, 0, 6, 7, 8}, 0, 210, 310},
		{row(8), 9, []int{1, 2, 3, 4, 0, 6, 7, 8}, 0, 0, 310},
		{bare(1, slices.Repeat([]api.Blue{blue(1, 1, span)}, 16)...), 1, slices.Repeat([]int{1000}, 16), 0, 1000 * span, 16000 * span},
	} {
		if n, e := bom.Path(x.c, x.kind, x.runs, x.level); n != x.path || e != api.OK {
			t.Errorf("Path of %v, %d, %v, %d: %d, %d, want %d", x.c, x.kind, x.runs, x.level, n, e, x.path)
		}
		if n, e := bom.Whole(x.c, x.runs, x.level); n != x.whole || e != api.OK {
			t.Errorf("Whole of %v, %v, %d: %d, %d, want %d", x.c, x.runs, x.level, n, e, x.whole)
		}
		timed(t, "written", x.c, x.kind, x.runs, x.level)
	}
}

// Bo2: the longest way is that of all that is needed, wherever it stands, and not that of most runs.
func TestBo2Longest(t *testing.T) {
	// 7 needs 4, 5 and 6; of these the middle one needs 3, which needs 2.
	c := bare(7, blue(7, 1, 1, 4, 1, 5, 1, 6, 1), blue(4, 1, 100), blue(6, 1, 90), blue(5, 1, 50, 3, 1), blue(3, 1, 40, 1, 1, 2, 1), blue(2, 1, 30))
	for _, x := range []struct {
		runs []int
		path int
	}{
		{[]int{1, 1, 1, 1, 1, 1}, 121}, // 50, 40, 30
		{[]int{1, 1, 1, 1, 1, 0}, 101},
		{[]int{1, 1, 2, 1, 1, 1}, 181},
		{[]int{1, 2, 1, 1, 1, 1}, 201},
		{[]int{1, 0, 0, 1, 1, 0}, 91},
		{[]int{1, 1, 0, 0, 9, 9}, 101},
		{[]int{2, 0, 0, 0, 9, 9}, 2},
	} {
		if n, e := bom.Path(c, 7, x.runs, 0); n != x.path || e != api.OK {
			t.Errorf("Path of 7, %v: %d, %d, want %d", x.runs, n, e, x.path)
		}
	}
	// What two need is on both ways, but just once on each.
	fork := bare(4, blue(4, 1, 1, 2, 1, 3, 1), blue(2, 1, 10, 1, 1), blue(3, 1, 20, 1, 1), blue(1, 1, 100))
	if n, e := bom.Path(fork, 4, []int{1, 1, 1, 1}, 0); n != 121 || e != api.OK {
		t.Errorf("Path of a fork: %d, %d", n, e)
	}
	if n, e := bom.Whole(fork, []int{1, 1, 1, 1}, 0); n != 131 || e != api.OK {
		t.Errorf("Whole of a fork: %d, %d", n, e)
	}
}

// wrongRuns are runs that are none of a catalogue with four blueprints.
func wrongRuns() [][]int {
	l := [][]int{nil, {}, {0}, {1, 1, 1}, {0, 0, 0, 0, 0}, {1, 1, 1, 1, 1}, make([]int, 16), make([]int, 1000)}
	for k := range 4 {
		for _, n := range []int{least, -1, 1001, 1 << 32, math.MaxInt} {
			runs := []int{1, 1, 1, 1}
			runs[k] = n
			l = append(l, runs)
		}
	}
	return l
}

// Bo2: what may not be asked.
func TestBo2Arg(t *testing.T) {
	c := ship()
	fine := []int{0, 1000, 1, 999}
	for _, kind := range []int{least, -1, 0, 1, 2, 5, 6, 32, 33, math.MaxInt} {
		for _, level := range []int{least, -1, 0, 1, 10, 11, 50, math.MaxInt} {
			for _, runs := range append(wrongRuns(), fine, []int{1, 1, 1, 1}) {
				timed(t, "edges", c, kind, runs, level)
				if level < 0 || level > 10 || !areRuns(c, runs) {
					if n, e := bom.Whole(c, runs, level); n != 0 || e != api.ErrArg {
						t.Errorf("Whole of %v, %d: %d, %d", runs, level, n, e)
					}
				}
			}
		}
	}
	for _, runs := range wrongRuns() {
		if n, e := bom.Path(c, 5, runs, 0); n != 0 || e != api.ErrArg {
			t.Errorf("Path of %v: %d, %d", runs, n, e)
		}
		if n, e := bom.Path(c, 1, runs, 0); n != 0 || e != api.ErrArg {
			t.Errorf("Path of %v, of a type that none makes: %d, %d", runs, n, e)
		}
	}
	if n, e := bom.Whole(bare(1), []int{0}, 0); n != 0 || e != api.ErrArg {
		t.Errorf("Whole without blueprints: %d, %d", n, e)
	}
	if n, e := bom.Path(bare(1), 1, []int{0}, 0); n != 0 || e != api.ErrArg {
		t.Errorf("Path without blueprints: %d, %d", n, e)
	}
}

// Bo3: what fits, written out.
func TestBo3Written(t *testing.T) {
	c := ship()
	pair := bare(3, blue(3, 1, 1, 2, 2), blue(2, 5, 1, 1, 3))
	twice := bare(2, blue(2, 1, 1), blue(2, 10, 1, 1, 1))
	for _, x := range []struct {
		c    api.Catalog
		a    ask
		runs []int
		want bool
	}{
		{c, ask{5, 4, 0, of(1, 19, 2, 20, 3, 3, 4, 1)}, []int{4, 2, 5, 0}, true},
		{c, ask{5, 4, 0, of(1, 19, 2, 19, 3, 3, 4, 1)}, []int{4, 2, 5, 0}, false},
		{c, ask{5, 4, 0, of(1, 18, 2, 20, 3, 3, 4, 1)}, []int{4, 2, 5, 0}, false},
		{c, ask{5, 4, 0, of(1, 19, 2, 20, 3, 2, 4, 1)}, []int{4, 2, 5, 0}, false},
		{c, ask{5, 4, 0, of(1, 19, 2, 20, 3, 3)}, []int{4, 2, 5, 0}, true}, // of 4 some are left
		{c, ask{5, 5, 0, of(1, 19, 2, 20, 3, 3, 4, 1)}, []int{4, 2, 5, 0}, false},
		{c, ask{5, 3, 0, of(1, 19, 2, 20, 3, 3, 4, 1)}, []int{4, 2, 5, 0}, true},
		{c, ask{5, 5, 0, of(1, 19, 2, 20, 3, 3, 4, 1, 5, 1)}, []int{4, 2, 5, 0}, true},
		{c, ask{5, 4, 0, of(1, 99, 2, 99, 3, 99, 4, 99)}, []int{4, 2, 5, 0}, true},
		{c, ask{5, 4, 0, of(1, 14, 2, 99, 3, 3)}, []int{4, 2, 0, 1}, true}, // by who is no maker, too
		{c, ask{5, 4, 0, of(1, 14, 3, 3)}, []int{4, 2, 0, 0}, false},
		{c, ask{3, 9, 0, nil}, []int{0, 0, 0, 1}, true},
		{c, ask{3, 10, 0, nil}, []int{0, 0, 0, 1}, false},
		{c, ask{3, 10, 0, of(3, 1)}, []int{0, 0, 0, 1}, true},
		{c, ask{1, 1, 0, nil}, []int{0, 0, 0, 0}, false},
		{c, ask{1, 1, 0, of(1, 1)}, []int{0, 0, 0, 0}, true},
		{c, ask{1, 1, 0, of(2, 1)}, []int{0, 0, 0, 0}, false},
		{c, ask{1, 1, 0, of(1, 1, 2, 1)}, []int{0, 0, 0, 1}, true},
		{c, ask{1, 1, 0, of(1, 1, 2, 4)}, []int{0, 0, 1, 0}, false}, // the run needs it
		{c, ask{1, 1, 0, of(1, 2, 2, 4)}, []int{0, 0, 1, 0}, true},
		{pair, ask{3, 1, 0, of(1, 3)}, []int{1, 1}, true},
		{pair, ask{3, 1, 0, of(1, 2)}, []int{1, 1}, false},
		{pair, ask{2, 3, 0, of(1, 3)}, []int{1, 1}, true},
		{pair, ask{2, 4, 0, of(1, 3)}, []int{1, 1}, false},
		{pair, ask{3, 1, 0, of(1, 99)}, []int{1, 0}, false},
		{pair, ask{3, 1, 0, of(1, 99)}, []int{0, 1}, false},
		{pair, ask{3, 2, 0, of(1, 3)}, []int{2, 1}, true},
		{pair, ask{3, 3, 0, of(1, 3)}, []int{3, 1}, false},
		{twice, ask{2, 11, 0, of(1, 1)}, []int{1, 1}, true},
		{twice, ask{2, 12, 0, of(1, 1)}, []int{1, 1}, false},
		{twice, ask{2, 1, 0, nil}, []int{1, 1}, false},
		{bare(2), ask{2, 1, 0, of(2, 1)}, nil, true},
		{bare(2), ask{2, 2, 0, of(2, 1)}, nil, false},
	} {
		fitted(t, "written", x.c, x.a, x.runs, x.want)
		if fits(x.c, x.a, x.runs) != x.want {
			t.Errorf("the other hand of %v, %v, %v", x.c, x.a, x.runs)
		}
	}
}

// Bo3: the level counts, and each run needs one.
func TestBo3Level(t *testing.T) {
	c := bare(2, blue(2, 1, 1, 1, 10))
	fitted(t, "level 5", c, ask{2, 3, 5, of(1, 29)}, []int{3}, true)
	fitted(t, "level 5", c, ask{2, 3, 5, of(1, 28)}, []int{3}, false)
	fitted(t, "level 4", c, ask{2, 3, 4, of(1, 28)}, []int{3}, false)
	fitted(t, "level 0", c, ask{2, 3, 0, of(1, 29)}, []int{3}, false)
	fitted(t, "level 0", c, ask{2, 3, 0, of(1, 30)}, []int{3}, true)
	c = bare(2, blue(2, 1, 1, 1, 1))
	fitted(t, "one each", c, ask{2, 1000, 10, of(1, 1000)}, []int{1000}, true)
	fitted(t, "one each", c, ask{2, 1000, 10, of(1, 999)}, []int{1000}, false)
}

// Bo3: what runs need is bounded for each of them alone; sums may be above that.
func TestBo3Over(t *testing.T) {
	half := most / 2
	// 2 and 3 need so many of 1, of which 5 are made.
	both := func(first, second int) api.Catalog {
		return bare(3, blue(2, 1, 1, 1, first), blue(3, 1, 1, 1, second), blue(1, 5, 1))
	}
	fitted(t, "together", both(half, half), ask{2, 1, 0, of(1, most)}, []int{1, 1, 0}, true)
	fitted(t, "more together", both(half, half+5), ask{2, 1, 0, of(1, most)}, []int{1, 1, 1}, true)
	fitted(t, "more than there is", both(half, half+6), ask{2, 1, 0, of(1, most)}, []int{1, 1, 1}, false)
	fitted(t, "all of two", both(most, 5), ask{2, 1, 0, of(1, most)}, []int{1, 1, 1}, true)
	fitted(t, "all of two", both(most, 6), ask{2, 1, 0, of(1, most)}, []int{1, 1, 1}, false)
	fitted(t, "twice all", both(most, most), ask{2, 1, 0, of(1, most)}, []int{1, 1, 1}, false)
	// Just one needs more than there may be, though that is there.
	fitted(t, "one alone", both(half, 1), ask{2, 1, 0, of(1, most)}, []int{2, 0, 1}, true)
	fitted(t, "one alone, too much", both(half+1, 1), ask{2, 1, 0, of(1, most)}, []int{2, 0, 1}, false)
	fitted(t, "one alone, at a level", both(half+1, 1), ask{2, 1, 1, of(1, most)}, []int{2, 0, 1}, true)
	fitted(t, "the other one alone, too much", both(1, half+1), ask{3, 1, 0, of(1, most)}, []int{0, 2, 1}, false)
	// What is asked for and what is needed, and what is there and is made, may be more together.
	fitted(t, "asked for and needed", both(5, 1), ask{1, most, 0, of(1, most)}, []int{1, 0, 1}, true)
	fitted(t, "asked for and needed", both(6, 1), ask{1, most, 0, of(1, most)}, []int{1, 0, 1}, false)
	fitted(t, "there and made", both(1, 1), ask{1, most, 0, of(1, most)}, []int{0, 0, 1000}, true)
	fitted(t, "made", both(1, 1), ask{1, 5000, 0, nil}, []int{0, 0, 1000}, true)
	fitted(t, "made", both(1, 1), ask{1, 5001, 0, nil}, []int{0, 0, 1000}, false)
	// As many as there may be, all as much as there may be.
	c := bare(17)
	for k := range 16 {
		c.Blues = append(c.Blues, blue(2+k, span, 1, 1, most))
	}
	fitted(t, "sixteen times", c, ask{1, most, 0, of(1, most)}, slices.Repeat([]int{1}, 16), false)
	fitted(t, "sixteen times", c, ask{2, most, 0, of(1, most)}, slices.Repeat([]int{1}, 16), false)
}

// Bo3: nothing fits of what may not be asked.
func TestBo3Arg(t *testing.T) {
	c := ship()
	l, runs := of(1, 100, 2, 100, 3, 100, 4, 100, 5, 1), []int{1, 1, 1, 1}
	fitted(t, "fine", c, ask{1, 1, 0, l}, runs, true)
	for _, kind := range []int{least, -1, 0, 6, 32, 33, math.MaxInt} {
		fitted(t, "kind", c, ask{kind, 1, 0, l}, runs, false)
	}
	for _, n := range []int{least, -1, 0, most + 1, math.MaxInt} {
		fitted(t, "n", c, ask{1, n, 0, l}, runs, false)
	}
	for _, level := range []int{least, -1, 11, math.MaxInt} {
		fitted(t, "level", c, ask{1, 1, level, l}, runs, false)
		fitted(t, "level", c, ask{1, 1, level, l}, []int{0, 0, 0, 0}, false)
	}
	for _, l := range wrongLists() {
		for _, kind := range []int{1, 3} {
			fitted(t, "no list", c, ask{kind, 1, 0, l}, []int{0, 0, 0, 1}, false)
			fitted(t, "no list", c, ask{kind, 1, 0, l}, []int{0, 0, 0, 0}, false)
		}
	}
	for _, runs := range wrongRuns() {
		fitted(t, "no runs", c, ask{1, 1, 0, l}, runs, false)
	}
	many := bare(32)
	fitted(t, "eight stacks", many, ask{8, 1, 0, ones(8)}, nil, true)
	fitted(t, "nine stacks", many, ask{8, 1, 0, ones(9)}, nil, false)
	fitted(t, "no blueprints", many, ask{8, 1, 0, ones(8)}, []int{0}, false)
}

// small are all blueprints of three types that need at most two of the others, of few things.
func small() []api.Blue {
	var l []api.Blue
	for makes := 1; makes <= 3; makes++ {
		for _, per := range []int{1, 3} {
			l = append(l, blue(makes, per, 10*makes))
			for kind := 1; kind <= 3; kind++ {
				if kind != makes {
					l = append(l, blue(makes, per, 10*makes+kind, kind, 2))
				}
			}
		}
	}
	return append(l, blue(3, 2, 7, 1, 1, 2, 2), blue(2, 2, 7, 1, 3, 3, 1))
}

// Bo1 to Bo3: all catalogues of two small blueprints, against another hand.
func TestSmall(t *testing.T) {
	l := small()
	for _, first := range l {
		for _, second := range l {
			c := bare(3, first, second)
			for kind := range 5 {
				for n := range 5 {
					for _, have := range [][]api.Stack{nil, of(1, 2), of(2, 1), of(1, 1, 2, 2, 3, 3), of(1, 9, 2, 9)} {
						all(t, "small", c, ask{kind, n, 0, have}, []int{n, kind})
					}
				}
			}
		}
	}
}

// chosen is a catalogue by chance, that may be: each type stands somewhere between top and bottom, and needs only what stands further down.
func chosen(r *rand.Rand) api.Catalog {
	c := bare(1 + r.IntN(32))
	rank := make([]int, c.Types+1)
	for kind := range rank {
		rank[kind] = r.IntN(1 + r.IntN(9))
	}
	far, wide := 1+r.IntN(50), 1+r.IntN(20)
	for range r.IntN(17) {
		b := api.Blue{Makes: 1 + r.IntN(c.Types), Per: 1 + r.IntN(1<<wide), Time: 1 + r.IntN(1<<r.IntN(21)), Copy: r.IntN(9), Study: r.IntN(9), Most: 1 + r.IntN(1000)}
		for kind := 1; kind <= c.Types && len(b.Needs) < 8; kind++ {
			if rank[kind] < rank[b.Makes] && r.IntN(3) == 0 {
				b.Needs = append(b.Needs, api.Stack{Type: kind, Qty: 1 + r.IntN(1<<r.IntN(far))})
			}
		}
		c.Blues = append(c.Blues, b)
	}
	return c
}

// asked is what may be asked of a catalogue, by chance.
func asked(r *rand.Rand, c api.Catalog) ask {
	a := ask{kind: 1 + r.IntN(c.Types), n: 1 + r.IntN(1<<r.IntN(1+r.IntN(51))), level: r.IntN(11)}
	// What is made is asked for most.
	if k := len(c.Blues); k > 0 && r.IntN(4) > 0 {
		a.kind = c.Blues[r.IntN(k)].Makes
	}
	for kind := 1; kind <= c.Types && len(a.have) < 8; kind++ {
		if r.IntN(5) == 0 {
			a.have = append(a.have, api.Stack{Type: kind, Qty: 1 + r.IntN(1<<r.IntN(51))})
		}
	}
	return a
}

// runsOf are runs of a catalogue, by chance.
func runsOf(r *rand.Rand, c api.Catalog) []int {
	var l []int
	for range c.Blues {
		l = append(l, r.IntN(1+r.IntN(1001))*r.IntN(2))
	}
	return l
}

// Bo1 to Bo3: catalogues and asks by chance, against another hand.
func TestChance(t *testing.T) {
	r := chance()
	got := map[api.Errno]int{}
	for range 6000 {
		c := chosen(r)
		for range 4 {
			a := asked(r, c)
			all(t, "by chance", c, a, runsOf(r, c))
			_, e := expand(c, a)
			got[e]++
		}
	}
	if got[api.OK] < 5000 || got[api.ErrOver] < 1000 || got[api.ErrArg] > 0 || got[api.ErrState] > 0 {
		t.Errorf("of each error there were %v", got)
	}
}

// Bo1 to Bo3: by chance, with one thing or another that may not be.
func TestSpoilt(t *testing.T) {
	r := chance()
	edges := []int{least, -1, 0, 1, 2, 8, 10, 11, 16, 17, 32, 33, 999, 1000, 1001, span, span + 1, most, most + 1, math.MaxInt}
	edge := func() int { return edges[r.IntN(len(edges))] }
	got := map[api.Errno]int{}
	for range 20000 {
		c := chosen(r)
		a, runs := asked(r, c), runsOf(r, c)
		spots := []*int{&c.Types, &c.Places, &c.Chars, &a.kind, &a.n, &a.level}
		for k := range a.have {
			spots = append(spots, &a.have[k].Type, &a.have[k].Qty)
		}
		for k := range runs {
			spots = append(spots, &runs[k], &c.Blues[k].Makes, &c.Blues[k].Per, &c.Blues[k].Time)
			for j := range c.Blues[k].Needs {
				spots = append(spots, &c.Blues[k].Needs[j].Type, &c.Blues[k].Needs[j].Qty)
			}
		}
		*spots[r.IntN(len(spots))] = edge()
		all(t, "spoilt", c, a, runs)
		_, e := expand(c, a)
		got[e]++
	}
	if got[api.OK] < 1000 || got[api.ErrArg] < 1000 {
		t.Errorf("of each error there were %v", got)
	}
}

// with are stacks, and others beside them, each type once.
func with(a, b []api.Stack) []api.Stack {
	var l []api.Stack
	for kind := 1; kind <= 32; kind++ {
		if n := qty(a, kind) + qty(b, kind); n > 0 {
			l = append(l, api.Stack{Type: kind, Qty: n})
		}
	}
	return l
}

// oneLess are stacks, without one thing of a type.
func oneLess(l []api.Stack, kind int) []api.Stack {
	l = slices.Clone(l)
	k := slices.IndexFunc(l, func(s api.Stack) bool { return s.Type == kind })
	l[k].Qty--
	if l[k].Qty == 0 {
		return slices.Delete(l, k, k+1)
	}
	return l
}

// kept holds what follows of a bill: it fits just so, a path is no longer than all, and a bill with all that must be there needs no more. It tells whether all that is there makes a list.
func kept(t *testing.T, c api.Catalog, a ask, x api.Bom, level int) bool {
	t.Helper()
	for kind := 1; kind <= c.Types; kind++ {
		n, e := bom.Path(c, kind, x.Runs, level)
		m, err := bom.Whole(c, x.Runs, level)
		if n > m || e != api.OK || err != api.OK {
			t.Fatalf("%v, %v: Path of %d: %d, %d, Whole: %d, %d", c, x.Runs, kind, n, e, m, err)
		}
	}
	b := a
	b.have = with(x.Raw, a.have)
	if len(b.have) > 8 {
		fitted(t, "no list", c, b, x.Runs, false)
		return false
	}
	fitted(t, "what is told", c, b, x.Runs, true)
	expanded(t, "with all that must be there", c, b, api.Bom{Runs: x.Runs, Left: x.Left}, api.OK)
	for _, s := range x.Raw {
		less := b
		less.have = oneLess(b.have, s.Type)
		fitted(t, "one less", c, less, x.Runs, false)
		expanded(t, "one less", c, less, api.Bom{Raw: of(s.Type, 1), Runs: x.Runs, Left: x.Left}, api.OK)
	}
	return true
}

// Bo4: what is told fits, with what was there; with one less it does not.
func TestBo4Chance(t *testing.T) {
	r := chance()
	lists, raw, runs, left := 0, 0, 0, 0
	for range 6000 {
		c := chosen(r)
		for range 4 {
			a := asked(r, c)
			x, e := bom.Expand(c, a.kind, a.n, a.level, a.have)
			if e != api.OK || !kept(t, c, a, x, r.IntN(11)) {
				continue
			}
			lists++
			raw += min(len(x.Raw), 1)
			left += min(len(x.Left), 1)
			if slices.ContainsFunc(x.Runs, func(n int) bool { return n > 0 }) {
				runs++
			}
		}
	}
	if lists < 3000 || raw < 1000 || runs < 1000 || left < 1000 {
		t.Errorf("of %d lists there were %d, %d and %d", lists, raw, runs, left)
	}
}

// Bo4: all small bills.
func TestBo4Small(t *testing.T) {
	c := ship()
	for kind := 1; kind <= 5; kind++ {
		for n := 1; n <= 40; n++ {
			for level := range 11 {
				for _, have := range [][]api.Stack{nil, of(1, 3, 4, 1), of(3, 7), of(1, 1, 2, 2, 3, 3, 4, 4, 5, 5)} {
					a := ask{kind, n, level, have}
					x, e := bom.Expand(c, kind, n, level, have)
					if e != api.OK || !kept(t, c, a, x, level) {
						t.Fatalf("Expand of %v: %v, %d", a, x, e)
					}
				}
			}
		}
	}
}

// Bo4: Path is at most Whole, whatever the runs are.
func TestBo4Path(t *testing.T) {
	r := chance()
	for range 5000 {
		c := chosen(r)
		runs, level := runsOf(r, c), r.IntN(11)
		m, err := bom.Whole(c, runs, level)
		for kind := 1; kind <= c.Types; kind++ {
			if n, e := bom.Path(c, kind, runs, level); n > m || e != api.OK || err != api.OK {
				t.Fatalf("%v, %v at %d: Path of %d: %d, %d, Whole: %d, %d", c, runs, level, kind, n, e, m, err)
			}
		}
	}
}

// R3: what is handed in is not changed, nor what lies behind the lists' ends, and that is not read.
func TestListsAreLeft(t *testing.T) {
	wide := ship()
	wide.Blues = append(wide.Blues, blue(1, 1, 1, 5, 1), blue(0, 0, 0))
	for k := range wide.Blues {
		wide.Blues[k].Needs = append(wide.Blues[k].Needs, api.Stack{Type: 5, Qty: -1})
	}
	kept := copied(wide)
	c := wide
	c.Blues = slices.Clone(wide.Blues)[:4]
	for k, b := range c.Blues {
		c.Blues[k].Needs = b.Needs[:len(b.Needs)-1]
	}
	have, runs := of(3, 3, 4, 1, 4, 1, 0, -1), []int{4, 2, 5, 0, 9, -1}
	l, m := slices.Clone(have), slices.Clone(runs)
	a := ask{5, 4, 0, have[:2]}
	for range 2 {
		expanded(t, "with room behind", c, a, api.Bom{Raw: of(1, 19, 2, 20), Runs: []int{4, 2, 5, 0}, Left: of(4, 9)}, api.OK)
		timed(t, "with room behind", c, 5, runs[:4], 0)
		fitted(t, "with room behind", c, a, runs[:4], false)
		fitted(t, "with room behind", c, ask{3, 9, 0, have[:1]}, []int{0, 0, 0, 1}, true)
		if !sameCatalog(wide, kept) || !sameCatalog(c, ship()) || !slices.Equal(have, l) || !slices.Equal(runs, m) {
			t.Fatalf("behind the calls there is %v, %v, %v, %v", wide, c, have, runs)
		}
	}
}

// R3, R4: answers are new memory, of which no two lists share any; asked again they are the same.
func TestAnswersAreNew(t *testing.T) {
	c := ship()
	want := api.Bom{Raw: of(1, 19, 2, 20), Runs: []int{4, 2, 5, 0}, Left: of(4, 9)}
	first := expanded(t, "first", c, ask{5, 4, 0, of(3, 3, 4, 1)}, want, api.OK)
	for range 3 {
		have := of(3, 3, 4, 1)
		x := expanded(t, "again", c, ask{5, 4, 0, have}, want, api.OK)
		for k := range x.Raw {
			x.Raw[k] = api.Stack{Type: 9, Qty: 9}
		}
		_ = append(x.Raw, api.Stack{Type: 8, Qty: 8})
		if !slices.Equal(x.Left, want.Left) || !slices.Equal(x.Runs, want.Runs) {
			t.Fatalf("lists share memory: %v", x)
		}
		x.Left[0] = api.Stack{Type: 7, Qty: 7}
		clear(x.Runs)
		if !same(first, want) || !sameCatalog(c, ship()) || !slices.Equal(have, of(3, 3, 4, 1)) {
			t.Fatalf("what is answered is shared: %v, %v, %v", first, c, have)
		}
	}
}

// R1: nothing panics, however little is handed in.
func TestNothing(t *testing.T) {
	for _, c := range []api.Catalog{{}, bare(0), bare(1), ship()} {
		for _, n := range []int{least, -1, 0, 1, 2, math.MaxInt} {
			for _, runs := range [][]int{nil, {}, {n}, {n, n, n, n}} {
				for _, have := range [][]api.Stack{nil, {}, of(n, n), of(1, n), of(n, 1)} {
					all(t, "nothing", c, ask{n, n, n, have}, runs)
					all(t, "nothing", c, ask{1, 1, 0, have}, runs)
				}
			}
		}
	}
}
