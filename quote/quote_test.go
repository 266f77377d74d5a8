package quote_test

import (
	"bottomry/api"
	"bottomry/bom"
	"bottomry/quote"
	"math"
	"math/rand/v2"
	"slices"
	"testing"
)

const (
	span  = api.MaxSpan
	least = math.MinInt
	great = math.MaxInt
)

// chance are numbers that are the same at each run.
func chance() *rand.Rand { return rand.New(rand.NewPCG(16, 40)) }

// blue is a blueprint that makes 1 of a type in a run: how long that takes, and of which types it needs 1.
func blue(makes, time int, needs ...int) api.Blue {
	b := api.Blue{Makes: makes, Per: 1, Time: time, Most: 1}
	for _, n := range needs {
		b.Needs = append(b.Needs, api.Stack{Type: n, Qty: 1})
	}
	return b
}

// slot is a bay with so many slots, at a rate.
func slot(n, rate int) api.Bay { return api.Bay{Place: 1, Make: n, Rate: rate} }

// with is a catalogue of so many types and bays, with blueprints.
func with(types int, bays []api.Bay, blues ...api.Blue) api.Catalog {
	return api.Catalog{Types: types, Blues: blues, Places: 1, Bays: bays, Chars: 1}
}

// bays are bays of 0 to 8 slots: the bay n has n-1.
func bays() []api.Bay {
	return []api.Bay{slot(0, 3), slot(1, 10000), slot(2, 0), slot(3, 1), slot(4, 9999), slot(5, 1), slot(6, 1), slot(8, 1)}
}

// ship is a catalogue with something of everything: 5 is made of 3 and 4, these of 1 and 2, of which 2 is made of nothing; 4 also by another blueprint.
func ship() api.Catalog {
	return with(5, bays(), blue(5, 100, 3, 4), blue(4, 20, 1), blue(3, 5, 1, 2), blue(2, 30), blue(4, 7, 2))
}

// row is a catalogue in which each type needs the next one, so deep.
func row(deep int) api.Catalog {
	c := with(deep+1, bays())
	for k := range deep {
		c.Blues = append(c.Blues, blue(k+1, 10, k+2))
	}
	return c
}

// spans are spans: from when to when, and so on.
func spans(n ...int) []api.Span {
	var l []api.Span
	for k := 0; k+1 < len(n); k += 2 {
		l = append(l, api.Span{Start: n[k], End: n[k+1]})
	}
	return l
}

// copied is a catalogue that shares nothing with another one.
func copied(c api.Catalog) api.Catalog {
	c.Blues, c.Bays = slices.Clone(c.Blues), slices.Clone(c.Bays)
	for k := range c.Blues {
		c.Blues[k].Needs = slices.Clone(c.Blues[k].Needs)
	}
	return c
}

// sameBlue and sameCatalog tell whether two are the same; nil and the empty list are.
func sameBlue(a, b api.Blue) bool {
	return a.Makes == b.Makes && a.Per == b.Per && a.Time == b.Time && slices.Equal(a.Needs, b.Needs) && a.Copy == b.Copy && a.Study == b.Study && a.Most == b.Most
}

func sameCatalog(a, b api.Catalog) bool {
	return a.Types == b.Types && slices.EqualFunc(a.Blues, b.Blues, sameBlue) && a.Places == b.Places && slices.Equal(a.Bays, b.Bays) && a.Chars == b.Chars && a.Fees == b.Fees
}

// wrong are catalogues that may not be, and why not.
func wrong() []struct {
	c api.Catalog
	e api.Errno
} {
	chars, types, rate, makes, place, fees := ship(), ship(), ship(), ship(), ship(), ship()
	chars.Chars = 0
	types.Types = 4
	rate.Bays[2].Rate = 10001
	makes.Bays[1].Make = 9
	place.Bays[7].Place = 2
	fees.Fees.Sales = -1
	long := ship()
	long.Blues[4].Time = span + 1
	return []struct {
		c api.Catalog
		e api.Errno
	}{
		{api.Catalog{}, api.ErrArg},
		{chars, api.ErrArg},
		{types, api.ErrArg},
		{rate, api.ErrArg},
		{makes, api.ErrArg},
		{place, api.ErrArg},
		{fees, api.ErrArg},
		{long, api.ErrArg},
		{with(33, bays()), api.ErrArg},
		{with(1, slices.Repeat(bays(), 2)), api.ErrArg},
		{with(1, bays(), slices.Repeat([]api.Blue{blue(1, 1)}, 17)...), api.ErrArg},
		{with(2, bays(), blue(1, 1, 2), blue(2, 1, 1)), api.ErrState},
		{with(2, bays(), blue(2, 1), blue(1, 1, 2), blue(2, 1, 1)), api.ErrState}, // also by a blueprint that is no type's maker
		{row(9), api.ErrOver},
	}
}

// asked is what all calls say of the same question, those of bays with a bay.
type asked struct {
	fee, cheapest int
	plan          []api.Span
	fits          bool
	feeErr        api.Errno
	cheapestErr   api.Errno
	planErr       api.Errno
}

// ask asks all calls; Fits is asked of what Plan tells.
func ask(c api.Catalog, bay int, runs []int, level int) asked {
	var a asked
	a.fee, a.feeErr = quote.Fee(c, bay, runs, level)
	a.cheapest, a.cheapestErr = quote.Cheapest(c, runs, level)
	a.plan, a.planErr = quote.Plan(c, bay, runs, level)
	a.fits = quote.Fits(c, bay, runs, level, a.plan)
	return a
}

// refused looks whether all that asks of a bay is refused with an error, and nothing beside it; Cheapest with another one.
func refused(t *testing.T, c api.Catalog, bay int, runs []int, level int, e, cheapest api.Errno) {
	t.Helper()
	a := ask(c, bay, runs, level)
	if a.fee != 0 || a.feeErr != e {
		t.Error("Fee", bay, runs, level, a.fee, a.feeErr, "asked:", e)
	}
	if len(a.plan) != 0 || a.planErr != e {
		t.Error("Plan", bay, runs, level, a.plan, a.planErr, "asked:", e)
	}
	if a.cheapestErr != cheapest || a.cheapestErr != api.OK && a.cheapest != 0 {
		t.Error("Cheapest", runs, level, a.cheapest, a.cheapestErr, "asked:", cheapest)
	}
	for n := range len(runs) + 2 {
		if quote.Fits(c, bay, runs, level, make([]api.Span, n)) {
			t.Error("Fits", bay, runs, level, n)
		}
	}
}

func TestQu1Catalogue(t *testing.T) {
	for k, x := range wrong() {
		none := make([]int, len(x.c.Blues))
		refused(t, x.c, 2, none, 0, x.e, x.e)
		// The catalogue is looked at ahead of all else.
		refused(t, x.c, 0, none, 0, x.e, x.e)
		refused(t, x.c, 99, []int{-1}, 11, x.e, x.e)
		bare := x.c
		bare.Bays = nil
		if _, e := quote.Cheapest(bare, none, 0); x.e != api.ErrArg && e != x.e {
			t.Error(k, e)
		}
	}
	if a := ask(row(8), 2, make([]int, 8), 0); a.feeErr != api.OK || a.planErr != api.OK || a.cheapestErr != api.OK || !a.fits {
		t.Error(a)
	}
}

func TestQu1Bay(t *testing.T) {
	c, runs := ship(), []int{1, 1, 1, 1, 1}
	for _, bay := range []int{0, -1, 9, 10, least, great, -8} {
		refused(t, c, bay, runs, 0, api.ErrNone, api.OK)
		// A bay is looked for ahead of the runs and the level.
		refused(t, c, bay, runs[1:], 0, api.ErrNone, api.ErrArg)
		refused(t, c, bay, runs, 11, api.ErrNone, api.ErrArg)
		refused(t, c, bay, nil, -1, api.ErrNone, api.ErrArg)
	}
	for bay := 1; bay <= 8; bay++ {
		if _, e := quote.Fee(c, bay, runs, 0); e != api.OK {
			t.Error(bay, e)
		}
		if _, e := quote.Plan(c, bay, runs, 0); e != api.OK && bay > 1 {
			t.Error(bay, e)
		}
	}
}

func TestQu1NoBay(t *testing.T) {
	lab := api.Bay{Place: 1, Lab: 8}
	for _, l := range [][]api.Bay{nil, {}, {lab}, {slot(0, 0)}, {lab, slot(0, 1), lab}} {
		c := with(2, l, blue(1, 5, 2))
		for _, runs := range [][]int{{1}, {0}, nil, {-1}, {1, 1}, {1001}} {
			for _, level := range []int{0, 10, 11, -1} {
				if n, e := quote.Cheapest(c, runs, level); n != 0 || e != api.ErrNone {
					t.Error(len(l), runs, level, n, e)
				}
			}
		}
		refused(t, c, len(l)+1, []int{1}, 0, api.ErrNone, api.ErrNone)
	}
	// One that makes is enough, and then the runs are looked at.
	c := with(2, []api.Bay{lab, slot(1, 7), lab}, blue(1, 5, 2))
	if n, e := quote.Cheapest(c, []int{1}, 0); n != 2 || e != api.OK {
		t.Error(n, e)
	}
	if n, e := quote.Cheapest(c, []int{1}, 11); n != 0 || e != api.ErrArg {
		t.Error(n, e)
	}
}

func TestQu1Runs(t *testing.T) {
	c := ship()
	for _, runs := range [][]int{nil, {1, 1, 1, 1}, {1, 1, 1, 1, 1, 1}, {1, 1, 1, 1, 1, 0}, make([]int, 4), make([]int, 40)} {
		refused(t, c, 2, runs, 0, api.ErrArg, api.ErrArg)
		// The runs are looked at ahead of the slots.
		refused(t, c, 1, runs, 0, api.ErrArg, api.ErrArg)
	}
	for k := range 5 {
		for _, n := range []int{-1, 1001, least, great, -1000, 1 << 32} {
			runs := []int{1, 1, 1, 1, 1}
			runs[k] = n
			refused(t, c, 2, runs, 0, api.ErrArg, api.ErrArg)
			refused(t, c, 1, runs, 0, api.ErrArg, api.ErrArg)
		}
		for _, n := range []int{0, 1, 1000} {
			runs := []int{1, 1, 1, 1, 1}
			runs[k] = n
			if a := ask(c, 2, runs, 0); a.feeErr != api.OK || a.planErr != api.OK || a.cheapestErr != api.OK || !a.fits {
				t.Error(k, n, a)
			}
		}
	}
	for _, level := range []int{-1, 11, least, great, 100} {
		refused(t, c, 2, []int{1, 1, 1, 1, 1}, level, api.ErrArg, api.ErrArg)
		refused(t, c, 1, []int{1, 1, 1, 1, 1}, level, api.ErrArg, api.ErrArg)
		refused(t, c, 2, []int{0, 0, 0, 0, 0}, level, api.ErrArg, api.ErrArg)
	}
	for level := range 11 {
		if a := ask(c, 2, []int{1, 1, 1, 1, 1}, level); a.feeErr != api.OK || a.planErr != api.OK || a.cheapestErr != api.OK || !a.fits {
			t.Error(level, a)
		}
	}
	// A catalogue without blueprints has runs: none.
	if a := ask(with(1, bays()), 1, nil, 10); a.feeErr != api.OK || a.planErr != api.OK || a.cheapestErr != api.OK || !a.fits || len(a.plan) != 0 || a.fee != 0 || a.cheapest != 2 {
		t.Error(a)
	}
}

func TestQu2Fee(t *testing.T) {
	for _, x := range []struct {
		rate, level int
		runs        []int
		n           int
	}{
		{10000, 0, []int{1, 2, 3, 1, 0}, 185},
		{10000, 0, []int{0, 0, 0, 0, 0}, 0},
		{0, 0, []int{1000, 1000, 1000, 1000, 1000}, 0},
		{1, 0, []int{1, 2, 3, 1, 0}, 4}, // each is rounded up by itself
		{1, 0, []int{1, 1, 1, 1, 1}, 5},
		{1, 0, []int{1000, 0, 0, 0, 0}, 10},
		{5000, 0, []int{0, 0, 1, 0, 1}, 3 + 4},
		{5000, 0, []int{0, 0, 2, 0, 2}, 5 + 7},
		{10000, 10, []int{1, 1, 1, 1, 1}, 80 + 16 + 4 + 24 + 6},
		{10000, 1, []int{1, 1, 1, 1, 1}, 98 + 20 + 5 + 30 + 7},
		{9999, 5, []int{0, 0, 0, 7, 0}, 189},
		{3, 10, []int{1000, 1000, 1000, 1000, 1000}, 24 + 5 + 2 + 8 + 2},
	} {
		c := ship()
		c.Bays = []api.Bay{slot(1, 77), slot(0, x.rate), slot(1, 78)}
		// Also where there is no slot it is told what the bay asks.
		for _, slots := range []int{0, 1, 8} {
			c.Bays[1].Make = slots
			if n, e := quote.Fee(c, 2, x.runs, x.level); n != x.n || e != api.OK {
				t.Error(x, slots, n, e)
			}
		}
	}
}

// TestQu2Longest holds that nothing that may be asked takes longer than MaxTime.
func TestQu2Longest(t *testing.T) {
	c := with(17, []api.Bay{slot(1, 10000), slot(8, 9999)})
	runs := slices.Repeat([]int{1000}, 16)
	for k := range 16 {
		c.Blues = append(c.Blues, blue(k+1, span))
	}
	if n, e := quote.Fee(c, 1, runs, 0); n != 16*1000*span || e != api.OK {
		t.Error(n, e)
	}
	if n, e := quote.Cheapest(c, runs, 0); n != 2 || e != api.OK {
		t.Error(n, e)
	}
	l, e := quote.Plan(c, 1, runs, 0)
	if e != api.OK || l[15] != (api.Span{Start: 15 * 1000 * span, End: 16 * 1000 * span}) || !quote.Fits(c, 1, runs, 0, l) {
		t.Error(l, e)
	}
}

func TestQu2Cheapest(t *testing.T) {
	c, runs := ship(), []int{1, 2, 3, 1, 0}
	for _, x := range []struct {
		bays []api.Bay
		n    int
	}{
		{[]api.Bay{slot(1, 10000)}, 1},
		{[]api.Bay{slot(1, 10000), slot(8, 10000)}, 1},
		{[]api.Bay{slot(1, 10000), slot(1, 9000), slot(1, 8000)}, 3},
		{[]api.Bay{slot(1, 8000), slot(1, 9000), slot(1, 10000)}, 1},
		{[]api.Bay{slot(1, 9000), slot(1, 8000), slot(1, 10000)}, 2},
		{[]api.Bay{slot(0, 0), slot(1, 10000)}, 2},
		{[]api.Bay{slot(0, 0), slot(1, 10000), slot(0, 0), slot(1, 0), slot(1, 0)}, 4},
		{[]api.Bay{slot(0, 0), slot(1, 0), slot(2, 0)}, 2},
		{[]api.Bay{slot(1, 2), slot(1, 1), slot(1, 0)}, 3},
		{[]api.Bay{slot(1, 3), slot(1, 2), slot(1, 1)}, 1}, // all ask 4
		{[]api.Bay{slot(1, 101), slot(1, 100), slot(1, 99)}, 2},
		{[]api.Bay{slot(0, 5), slot(1, 9), slot(1, 8), slot(1, 9), slot(2, 7), slot(1, 9), slot(1, 6), slot(3, 10)}, 2},
	} {
		c.Bays = x.bays
		if n, e := quote.Cheapest(c, runs, 0); n != x.n || e != api.OK {
			t.Error(x, n, e)
		}
		// Without jobs all bays ask nothing: it is the first one that makes.
		first := 1 + slices.IndexFunc(x.bays, func(b api.Bay) bool { return b.Make > 0 })
		if n, e := quote.Cheapest(c, make([]int, 5), 3); n != first || e != api.OK {
			t.Error(x, n, e)
		}
	}
}

func TestQu3Written(t *testing.T) {
	c := ship()
	for _, x := range []struct {
		bay, level int
		runs       []int
		l          []api.Span
	}{
		{2, 0, []int{1, 2, 3, 1, 0}, spans(85, 185, 0, 40, 70, 85, 40, 70, 0, 0)},
		{3, 0, []int{1, 2, 3, 1, 0}, spans(45, 145, 0, 40, 30, 45, 0, 30, 0, 0)},
		{8, 0, []int{1, 2, 3, 1, 0}, spans(45, 145, 0, 40, 30, 45, 0, 30, 0, 0)},
		{2, 0, []int{1, 1, 1, 1, 1}, spans(55, 155, 0, 20, 50, 55, 20, 50, 155, 162)},
		{3, 0, []int{1, 1, 1, 1, 1}, spans(35, 135, 0, 20, 30, 35, 0, 30, 30, 37)},
		{4, 0, []int{1, 1, 1, 1, 1}, spans(35, 135, 0, 20, 30, 35, 0, 30, 30, 37)},
		{3, 10, []int{1, 1, 1, 1, 1}, spans(28, 108, 0, 16, 24, 28, 0, 24, 24, 30)},
		// Whose maker has no job waits for nothing.
		{2, 0, []int{1, 0, 0, 0, 0}, spans(0, 100, 0, 0, 0, 0, 0, 0, 0, 0)},
		{2, 0, []int{1, 0, 1, 0, 0}, spans(5, 105, 0, 0, 0, 5, 0, 0, 0, 0)},
		{8, 0, []int{1, 0, 1, 0, 0}, spans(5, 105, 0, 0, 0, 5, 0, 0, 0, 0)},
		// Another blueprint that makes the type is not waited for.
		{3, 0, []int{1, 0, 0, 0, 1}, spans(0, 100, 0, 0, 0, 0, 0, 0, 0, 7)},
		{2, 0, []int{1, 0, 0, 0, 1}, spans(0, 100, 0, 0, 0, 0, 0, 0, 100, 107)},
		{8, 0, []int{1, 0, 0, 1, 1}, spans(0, 100, 0, 0, 0, 0, 0, 30, 30, 37)},
		{2, 0, []int{0, 0, 0, 0, 1000}, spans(0, 0, 0, 0, 0, 0, 0, 0, 0, 7000)},
		{1, 0, []int{0, 0, 0, 0, 0}, make([]api.Span, 5)},
		{2, 0, []int{0, 0, 0, 0, 0}, make([]api.Span, 5)},
	} {
		if l, e := quote.Plan(c, x.bay, x.runs, x.level); e != api.OK || !slices.Equal(l, x.l) {
			t.Error(x, l, e)
		}
	}
}

// TestQu3Order holds that the least number begins, and that who stands ahead is not waited for where it may not begin.
func TestQu3Order(t *testing.T) {
	c := with(8, bays(), blue(1, 4), blue(2, 3), blue(3, 2), blue(4, 1), blue(5, 9, 4), blue(6, 1, 1))
	all := []int{1, 1, 1, 1, 1, 1}
	for _, x := range []struct {
		bay int
		l   []api.Span
	}{
		{2, spans(0, 4, 4, 7, 7, 9, 9, 10, 10, 19, 19, 20)},
		{3, spans(0, 4, 0, 3, 3, 5, 4, 5, 5, 14, 5, 6)},
		{4, spans(0, 4, 0, 3, 0, 2, 2, 3, 3, 12, 4, 5)},
		{5, spans(0, 4, 0, 3, 0, 2, 0, 1, 1, 10, 4, 5)},
		{6, spans(0, 4, 0, 3, 0, 2, 0, 1, 1, 10, 4, 5)},
	} {
		if l, e := quote.Plan(c, x.bay, all, 0); e != api.OK || !slices.Equal(l, x.l) {
			t.Error(x, l, e)
		}
	}
	// Two that are over at once leave two slots; one that ends is waited for, also if another one ended earlier.
	d := with(4, bays(), blue(1, 6), blue(2, 6), blue(3, 5, 1, 2), blue(4, 1))
	if l, e := quote.Plan(d, 3, []int{1, 1, 1, 1}, 0); e != api.OK || !slices.Equal(l, spans(0, 6, 0, 6, 6, 11, 6, 7)) {
		t.Error(l, e)
	}
	if l, e := quote.Plan(d, 4, []int{1, 2, 1, 1}, 0); e != api.OK || !slices.Equal(l, spans(0, 6, 0, 12, 12, 17, 0, 1)) {
		t.Error(l, e)
	}
}

func TestQu3Slots(t *testing.T) {
	c := ship()
	for k := range 5 {
		runs := make([]int, 5)
		runs[k] = 1
		if l, e := quote.Plan(c, 1, runs, 0); len(l) != 0 || e != api.ErrSlots {
			t.Error(k, l, e)
		}
		// What it costs can be told without a slot; slots of the other side do not count.
		if n, e := quote.Fee(c, 1, runs, 0); n != 1 || e != api.OK {
			t.Error(k, n, e)
		}
		c.Bays[0].Lab = 8
	}
	if l, e := quote.Plan(c, 1, make([]int, 5), 0); e != api.OK || !slices.Equal(l, make([]api.Span, 5)) {
		t.Error(l, e)
	}
	for slots := 1; slots <= 8; slots++ {
		x := with(1, []api.Bay{slot(slots, 0)}, slices.Repeat([]api.Blue{blue(1, 1)}, 16)...)
		l, e := quote.Plan(x, 1, slices.Repeat([]int{2}, 16), 0)
		for k, s := range l {
			if s != (api.Span{Start: k / slots * 2, End: k/slots*2 + 2}) {
				t.Error(slots, k, s)
			}
		}
		if len(l) != 16 || e != api.OK {
			t.Error(slots, l, e)
		}
	}
}

// lasts is how long so many runs of a blueprint take, in the words of layer 12.
func lasts(b api.Blue, level, runs int) int { return (b.Time*runs*(100-2*level) + 99) / 100 }

// waits tells whether the job of a blueprint waits for that of another one.
func waits(c api.Catalog, runs []int, k, other int) bool {
	if runs[k] == 0 || runs[other] == 0 {
		return false
	}
	for n := range other {
		if c.Blues[n].Makes == c.Blues[other].Makes {
			return false
		}
	}
	return slices.ContainsFunc(c.Blues[k].Needs, func(s api.Stack) bool { return s.Type == c.Blues[other].Makes })
}

// ticked is a plan by another hand: time goes by one by one, and each job has so much left.
func ticked(c api.Catalog, slots int, runs []int, level int) []api.Span {
	l, left, begun := make([]api.Span, len(runs)), make([]int, len(runs)), make([]bool, len(runs))
	still := 0
	for k, n := range runs {
		left[k] = lasts(c.Blues[k], level, n)
		if n > 0 {
			still++
		}
	}
	free := slots
	for now := 0; still > 0; now++ {
		for k := range l {
			may := left[k] > 0 && !begun[k] && free > 0
			for n := range l {
				may = may && !(waits(c, runs, k, n) && left[n] > 0)
			}
			if may {
				l[k].Start, begun[k] = now, true
				free--
			}
		}
		for k := range l {
			if begun[k] && left[k] > 0 {
				if left[k]--; left[k] == 0 {
					l[k].End = now + 1
					free++
					still--
				}
			}
		}
	}
	return l
}

// fits is Fits by another hand, in numbers that are small: each time is looked at.
func fits(c api.Catalog, slots int, runs []int, level int, l []api.Span) bool {
	if len(l) != len(runs) {
		return false
	}
	last := 0
	for k, s := range l {
		if runs[k] == 0 && s != (api.Span{}) || runs[k] > 0 && (s.Start < 0 || s.End-s.Start != lasts(c.Blues[k], level, runs[k])) {
			return false
		}
		for n, other := range l {
			if waits(c, runs, k, n) && s.Start < other.End {
				return false
			}
		}
		last = max(last, s.End)
	}
	for now := range last {
		n := 0
		for _, s := range l {
			if now >= s.Start && now < s.End {
				n++
			}
		}
		if n > slots {
			return false
		}
	}
	return true
}

// longest is the longest row of jobs that wait for one another, the last one of which is that of a blueprint.
func longest(c api.Catalog, runs []int, level, k int) int {
	n := 0
	for other := range runs {
		if waits(c, runs, k, other) {
			n = max(n, longest(c, runs, level, other))
		}
	}
	return n + lasts(c.Blues[k], level, runs[k])
}

// held looks whether all that is asked is what the chapter says, at times that are small.
func held(t *testing.T, c api.Catalog, runs []int, level int) {
	t.Helper()
	row, whole := 0, 0
	for k := range runs {
		row = max(row, longest(c, runs, level, k))
		whole += lasts(c.Blues[k], level, runs[k])
	}
	best, cost := 0, 0
	for k, b := range c.Bays {
		fee := 0
		for n := range runs {
			fee += (lasts(c.Blues[n], level, runs[n])*b.Rate + 9999) / 10000
		}
		if b.Make > 0 && (best == 0 || fee < cost) {
			best, cost = k+1, fee
		}
		a := ask(c, k+1, runs, level)
		if a.fee != fee || a.feeErr != api.OK {
			t.Fatal("Fee", c, k+1, runs, level, a, fee)
		}
		if b.Make == 0 && whole > 0 {
			if len(a.plan) != 0 || a.planErr != api.ErrSlots || quote.Fits(c, k+1, runs, level, ticked(c, 1, runs, level)) {
				t.Fatal("Plan", c, k+1, runs, level, a)
			}
			continue
		}
		if a.planErr != api.OK || !slices.Equal(a.plan, ticked(c, b.Make, runs, level)) {
			t.Fatal("Plan", c, k+1, runs, level, a.plan, ticked(c, b.Make, runs, level))
		}
		last := 0
		for _, s := range a.plan {
			last = max(last, s.End)
		}
		if !a.fits || !fits(c, b.Make, runs, level, a.plan) || last > whole || last < row || b.Make == 1 && last != whole || b.Make >= len(runs) && last != row {
			t.Fatal("Qu5", c, k+1, runs, level, a, row, whole)
		}
	}
	if n, e := quote.Cheapest(c, runs, level); n != best || best == 0 && e != api.ErrNone || best > 0 && e != api.OK {
		t.Fatal("Cheapest", c, runs, level, n, e, best)
	}
	if n, e := bom.Whole(c, runs, level); n != whole || e != api.OK {
		t.Fatal("Whole", n, e, whole)
	}
}

// TestQu3Small goes through all graphs of four blueprints, of which each may need what those behind it make, in all bays, with few times.
func TestQu3Small(t *testing.T) {
	r := chance()
	for graph := range 1 << 6 {
		for range 12 {
			c, bit := with(4, bays()), 0
			for k := range 4 {
				b := blue(k+1, 1+r.IntN(5))
				for n := k + 1; n < 4; n++ {
					if graph>>bit&1 == 1 {
						b.Needs = append(b.Needs, api.Stack{Type: n + 1, Qty: 1 + r.IntN(3)})
					}
					bit++
				}
				c.Blues = append(c.Blues, b)
			}
			r.Shuffle(4, func(a, b int) { c.Blues[a], c.Blues[b] = c.Blues[b], c.Blues[a] })
			for some := range 1 << 4 {
				runs := make([]int, 4)
				for k := range runs {
					runs[k] = some >> k & 1 * (1 + r.IntN(3))
				}
				held(t, c, runs, r.IntN(11))
			}
		}
	}
}

// lot is a catalogue by chance: types need greater ones, and not too deep; several blueprints make the same type.
func lot(r *rand.Rand) (api.Catalog, []int) {
	c := with(9, nil)
	for range r.IntN(17) {
		b := blue(1+r.IntN(8), 1+r.IntN(30))
		for kind := b.Makes + 1; kind <= 9; kind++ {
			if r.IntN(3) == 0 {
				b.Needs = append(b.Needs, api.Stack{Type: kind, Qty: 1 + r.IntN(9)})
			}
		}
		c.Blues = append(c.Blues, b)
	}
	for range r.IntN(9) {
		c.Bays = append(c.Bays, slot(r.IntN(9), r.IntN(10001)>>r.IntN(14)))
	}
	runs := make([]int, len(c.Blues))
	for k := range runs {
		runs[k] = max(0, r.IntN(7)-1)
	}
	return c, runs
}

// TestQu3Chance and what it holds: fees, the cheapest bay, plans, and that these fit and end in time (Qu5).
func TestQu3Chance(t *testing.T) {
	r := chance()
	for range 3000 {
		c, runs := lot(r)
		held(t, c, runs, r.IntN(11))
	}
}

func TestQu4Written(t *testing.T) {
	c := with(3, bays(), blue(1, 10, 2), blue(2, 5), blue(3, 4))
	runs := []int{1, 1, 1}
	for _, x := range []struct {
		bay  int
		l    []api.Span
		fits bool
	}{
		{2, spans(9, 19, 0, 5, 5, 9), true},
		{2, spans(5, 15, 0, 5, 15, 19), true},
		{2, spans(9, 19, 4, 9, 0, 4), true},
		{2, spans(100, 110, 50, 55, 7, 11), true}, // later than they might
		{3, spans(5, 15, 0, 5, 0, 4), true},
		{2, spans(5, 15, 0, 5, 0, 4), false}, // two at once
		{2, spans(9, 19, 0, 5, 4, 8), false},
		{2, spans(9, 19, 0, 5, 6, 10), false},
		{2, spans(5, 15, 0, 5, 14, 18), false},
		{2, spans(5, 15, 0, 5, 8, 12), false},
		{3, spans(5, 15, 0, 5, 8, 12), true},
		{3, spans(4, 14, 0, 5, 0, 4), false}, // ahead of the end for which it waits
		{3, spans(0, 10, 10, 15, 0, 4), false},
		{8, spans(0, 10, 0, 5, 0, 4), false},
		{3, spans(6, 15, 0, 5, 0, 4), false}, // too short
		{3, spans(5, 16, 0, 5, 0, 4), false}, // too long
		{3, spans(5, 15, 0, 4, 0, 4), false},
		{3, spans(5, 15, 0, 6, 0, 4), false},
		{3, spans(5, 15, -1, 4, 0, 4), false}, // ahead of the time 0
		{3, spans(5, 15, 0, 5, -1, 3), false},
		{3, spans(5, 15, 0, 5, -4, 0), false},
		{3, spans(5, 15, 0, 5, -9, -5), false},
		{3, spans(5, 15, 0, 5, 0, 0), false}, // not done
		{3, spans(0, 0, 0, 5, 0, 4), false},
		{3, spans(5, 15, 0, 5, 4, 0), false}, // the wrong way round
		{3, spans(5, 15, 0, 5), false},
		{3, spans(5, 15, 0, 5, 0, 4, 0, 0), false},
		{3, nil, false},
		{1, spans(9, 19, 0, 5, 5, 9), false}, // no slot
		{0, spans(9, 19, 0, 5, 5, 9), false},
		{9, spans(9, 19, 0, 5, 5, 9), false},
		{2, spans(great-10, great, 0, 5, 5, 9), true},
		{2, spans(great-9, least, 0, 5, 5, 9), false}, // they would go round
		{2, spans(great, least+9, 0, 5, 5, 9), false},
		{2, spans(great-9, 0, 0, 5, 5, 9), false},
		{2, spans(great-9, great, 0, 5, 5, 9), false},
		{3, spans(5, 15, great-2, least+2, 0, 4), false},
		{3, spans(5, 15, 0, 5, great-3, least), false},
		{3, spans(5, 15, 0, 5, great-4, great), true},
		{3, spans(5, 15, 0, 5, least, least+4), false},
		{3, spans(5, 15, 0, 5, great, least), false},
		{3, spans(5, 15, 0, 5, least, great), false},
	} {
		if is := quote.Fits(c, x.bay, runs, 0, x.l); is != x.fits {
			t.Error(x, is)
		}
	}
}

// TestQu4None holds that what has no job has no time, and is not waited for.
func TestQu4None(t *testing.T) {
	c := with(3, bays(), blue(1, 10, 2), blue(2, 5), blue(3, 4))
	for _, x := range []struct {
		bay  int
		runs []int
		l    []api.Span
		fits bool
	}{
		{1, []int{0, 0, 0}, spans(0, 0, 0, 0, 0, 0), true},
		{2, []int{0, 0, 0}, spans(0, 0, 0, 0, 0, 0), true},
		{2, []int{0, 0, 0}, spans(0, 0, 1, 1, 0, 0), false},
		{2, []int{0, 0, 0}, spans(0, 10, 0, 0, 0, 0), false},
		{2, []int{0, 0, 0}, spans(0, 0, 0, 0, 0, 1), false},
		{2, []int{0, 0, 0}, spans(0, 0, 0, 0, -1, 0), false},
		{2, []int{0, 0, 0}, spans(0, 0), false},
		{2, []int{0, 0, 0}, nil, false},
		{2, []int{1, 0, 0}, spans(0, 10, 0, 0, 0, 0), true},
		{2, []int{1, 0, 0}, spans(0, 10, 0, 5, 0, 0), false},
		{2, []int{1, 0, 0}, spans(5, 15, 0, 5, 0, 0), false},
		{1, []int{0, 0, 1}, spans(0, 0, 0, 0, 0, 4), false},
		{2, []int{0, 0, 1}, spans(0, 0, 0, 0, 0, 4), true},
	} {
		if is := quote.Fits(c, x.bay, x.runs, 0, x.l); is != x.fits {
			t.Error(x, is)
		}
	}
	if !quote.Fits(with(1, bays()), 1, nil, 0, nil) || quote.Fits(with(1, bays()), 1, nil, 0, spans(0, 0)) || quote.Fits(with(1, bays()), 0, nil, 0, nil) {
		t.Error("no blueprints")
	}
	// Another blueprint that makes the type is not waited for, also by itself.
	d := with(2, bays(), blue(1, 10, 2), blue(2, 5), blue(2, 4))
	if !quote.Fits(d, 3, []int{1, 0, 1}, 0, spans(0, 10, 0, 0, 3, 7)) || !quote.Fits(d, 3, []int{1, 1, 1}, 0, spans(5, 15, 0, 5, 3, 7)) || quote.Fits(d, 3, []int{1, 1, 1}, 0, spans(4, 14, 0, 5, 0, 4)) {
		t.Error("another maker")
	}
	// At a level a job takes less, and it is that that it must take.
	if !quote.Fits(d, 2, []int{1, 0, 0}, 10, spans(0, 8, 0, 0, 0, 0)) || quote.Fits(d, 2, []int{1, 0, 0}, 10, spans(0, 10, 0, 0, 0, 0)) || quote.Fits(d, 2, []int{1, 0, 0}, 0, spans(0, 8, 0, 0, 0, 0)) {
		t.Error("level")
	}
}

// TestQu4Small goes through all spans of three short jobs, in all small graphs.
func TestQu4Small(t *testing.T) {
	for _, c := range []api.Catalog{
		with(4, bays(), blue(1, 1), blue(2, 2), blue(3, 3)),
		with(4, bays(), blue(1, 1, 2), blue(2, 2), blue(3, 3)),
		with(4, bays(), blue(1, 2, 2), blue(2, 1, 3), blue(3, 2)),
		with(4, bays(), blue(1, 3, 2, 3), blue(2, 1), blue(3, 1)),
		with(4, bays(), blue(1, 1), blue(2, 2, 1), blue(3, 1, 1)),
	} {
		for _, runs := range [][]int{{1, 1, 1}, {1, 0, 1}, {0, 1, 1}} {
			l := make([]api.Span, 3)
			for n := range 8 * 8 * 8 {
				for away := -1; away <= 6; away++ {
					for k, at := range []int{n % 8, n / 8 % 8, n / 64} {
						l[k] = api.Span{Start: at - 1, End: at - 1 + c.Blues[k].Time}
						if runs[k] == 0 {
							l[k] = api.Span{Start: max(0, at-4)}
						}
					}
					// One of the ends is moved, but in two of eight cases.
					if away >= 0 && away < 3 {
						l[away].End++
					} else if away >= 3 && away < 6 {
						l[away-3].End--
					}
					for bay, slots := range []int{0, 1, 2, 3} {
						if is := quote.Fits(c, bay+1, runs, 0, l); is != fits(c, slots, runs, 0, l) {
							t.Fatal(c, slots, runs, l, is)
						}
					}
				}
			}
		}
	}
}

// TestQu4Chance moves jobs of plans: what then fits is told by another hand.
func TestQu4Chance(t *testing.T) {
	r, count := chance(), [2]int{}
	for range 6000 {
		c, runs := lot(r)
		c.Bays = bays()
		level, bay := r.IntN(11), 2+r.IntN(7)
		l, e := quote.Plan(c, bay, runs, level)
		if e != api.OK {
			t.Fatal(e)
		}
		for range r.IntN(3) {
			if len(l) == 0 {
				break
			}
			k, by := r.IntN(len(l)), r.IntN(9)-3
			switch r.IntN(4) {
			case 0:
				// All from one on are done later.
				for n := range l {
					if l[n].Start >= l[k].Start && l[n].End > 0 {
						l[n].Start, l[n].End = l[n].Start+r.IntN(2)+3, l[n].End+3
					}
				}
			case 1:
				l[k].End += by
			default:
				l[k].Start, l[k].End = l[k].Start+by, l[k].End+by
			}
		}
		is := quote.Fits(c, bay, runs, level, l)
		if is != fits(c, c.Bays[bay-1].Make, runs, level, l) {
			t.Fatal(c, bay, runs, level, l, is)
		}
		if is {
			count[1]++
		} else {
			count[0]++
		}
	}
	if count[0] < 1000 || count[1] < 1000 {
		t.Error(count)
	}
}

// TestQu5Bounds holds both bounds where they are reached: one slot, and a slot for each.
func TestQu5Bounds(t *testing.T) {
	c := row(8)
	runs := []int{1, 2, 3, 4, 5, 6, 7, 8}
	for bay := 2; bay <= 8; bay++ {
		l, e := quote.Plan(c, bay, runs, 0)
		if e != api.OK || l[0].End != 360 || l[7].Start != 0 || !quote.Fits(c, bay, runs, 0, l) {
			t.Error(bay, l, e)
		}
	}
	d := with(9, bays(), blue(1, 8), blue(2, 7), blue(3, 6), blue(4, 5), blue(5, 4), blue(6, 3), blue(7, 2), blue(8, 1))
	for bay, last := range map[int]int{2: 36, 3: 18, 4: 13, 8: 8} {
		l, e := quote.Plan(d, bay, slices.Repeat([]int{1}, 8), 0)
		if e != api.OK || slices.MaxFunc(l, func(a, b api.Span) int { return a.End - b.End }).End != last {
			t.Error(bay, l, e)
		}
	}
}

// TestR3 holds that what is handed in is not changed, nor read beyond its end, and that answers are new memory.
func TestR3(t *testing.T) {
	c := ship()
	wide := append(slices.Clone(c.Blues), blue(1, 1, 5))
	c.Blues = wide[:5]
	all := []int{1, 2, 3, 1, 1, 5000}
	runs, was := all[:5], copied(c)
	first := ask(c, 3, runs, 2)
	given := append(slices.Clone(first.plan), api.Span{Start: 1, End: 2})
	if !quote.Fits(c, 3, runs, 2, given[:5]) {
		t.Error("Fits")
	}
	if !sameCatalog(c, was) || !slices.Equal(all, []int{1, 2, 3, 1, 1, 5000}) || !sameBlue(wide[5], blue(1, 1, 5)) || !slices.Equal(given[:5], first.plan) || given[5] != (api.Span{Start: 1, End: 2}) {
		t.Error("changed")
	}
	kept := slices.Clone(first.plan)
	second := ask(c, 3, runs, 2)
	for k := range second.plan {
		second.plan[k].Start = -1
	}
	second.plan = append(second.plan, api.Span{})
	if !slices.Equal(first.plan, kept) {
		t.Error("answers share memory")
	}
	// What is asked once more is answered the same, also behind other calls.
	for range 3 {
		ask(row(8), 2, make([]int, 8), 1)
		again := ask(c, 3, runs, 2)
		if again.fee != first.fee || again.cheapest != first.cheapest || !slices.Equal(again.plan, kept) || !again.fits {
			t.Error(again)
		}
	}
	// nil and the empty list are the same.
	d := with(1, bays())
	e := d
	e.Blues = []api.Blue{}
	if a, b := ask(d, 2, nil, 0), ask(e, 2, []int{}, 0); a.fee != b.fee || len(a.plan) != len(b.plan) || a.planErr != b.planErr || !quote.Fits(d, 2, nil, 0, []api.Span{}) || !quote.Fits(e, 2, []int{}, 0, nil) {
		t.Error(a, b)
	}
}

// TestR1 asks at all sorts of numbers: nothing panics, and all ends.
func TestR1(t *testing.T) {
	r := chance()
	edges := []int{least, least + 1, -1, 0, 1, 2, 3, 8, 9, 10, 11, 1000, 1001, span, span + 1, great - 1, great}
	edge := func() int { return edges[r.IntN(len(edges))] }
	for range 20000 {
		c, runs := lot(r)
		for range r.IntN(3) {
			switch r.IntN(6) {
			case 0:
				c.Types = edge()
			case 1:
				if len(c.Bays) > 0 {
					c.Bays[r.IntN(len(c.Bays))] = api.Bay{Place: edge(), Make: edge(), Rate: edge()}
				}
			case 2:
				if len(c.Blues) > 0 {
					c.Blues[r.IntN(len(c.Blues))] = blue(edge(), edge(), edge(), edge())
				}
			case 3:
				if len(runs) > 0 {
					runs[r.IntN(len(runs))] = edge()
				}
			case 4:
				runs = append(runs, edge())
			}
		}
		bay, level := edge(), edge()
		ask(c, bay, runs, level)
		l := make([]api.Span, len(runs))
		for k := range l {
			l[k] = api.Span{Start: edge(), End: edge()}
		}
		quote.Fits(c, bay, runs, level, l)
	}
}
