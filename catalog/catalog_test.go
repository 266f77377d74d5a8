package catalog_test

import (
	"bottomry/api"
	"bottomry/catalog"
	"encoding/binary"
	"math"
	"math/rand/v2"
	"slices"
	"strings"
	"testing"
)

const (
	span  = api.MaxSpan
	least = math.MinInt
	most  = math.MaxInt
)

// chance are numbers that are the same at each run.
func chance() *rand.Rand { return rand.New(rand.NewPCG(14, 32)) }

// of are stacks: a type, how many of it, and so on.
func of(n ...int) []api.Stack {
	var l []api.Stack
	for k := 0; k+1 < len(n); k += 2 {
		l = append(l, api.Stack{Type: n[k], Qty: n[k+1]})
	}
	return l
}

// blue is a blueprint that makes a type, and needs one of each of others.
func blue(makes int, needs ...int) api.Blue {
	b := api.Blue{Makes: makes, Per: 1, Time: 1, Most: 1}
	for _, kind := range needs {
		b.Needs = append(b.Needs, api.Stack{Type: kind, Qty: 1})
	}
	return b
}

// bare is the least catalogue that may be, with blueprints.
func bare(types int, blues ...api.Blue) api.Catalog {
	return api.Catalog{Types: types, Blues: blues, Places: 1, Chars: 1}
}

// plain is a catalogue that may be, with something of everything.
func plain() api.Catalog {
	return api.Catalog{
		Types: 5,
		Blues: []api.Blue{
			{Makes: 5, Per: 4, Time: 300, Needs: of(1, 10, 3, 1<<50), Copy: 7, Study: 100, Most: 20},
			{Makes: 3, Per: 1, Time: 60, Needs: of(2, 1), Most: 1000},
			{Makes: 4, Per: span, Time: span, Copy: span, Study: span, Most: 1},
		},
		Places: 2,
		Bays:   []api.Bay{{Place: 2, Make: 1, Lab: 3, Rate: 150}, {Place: 1, Make: 8, Rate: 10000}, {Place: 1}},
		Chars:  3,
		Fees:   api.Fees{Broker: 100, Least: 7, Sales: 200},
	}
}

// full is the greatest catalogue that may be: all numbers, and all lists.
func full() api.Catalog {
	c := api.Catalog{Types: 32, Places: 8, Chars: 16, Fees: api.Fees{Broker: 10000, Least: 1 << 60, Sales: 10000}}
	for k := range 16 {
		b := api.Blue{Makes: 17 + k, Per: span, Time: span, Copy: span, Study: span, Most: 1000}
		for kind := range 8 {
			b.Needs = append(b.Needs, api.Stack{Type: 1 + kind + k%2*8, Qty: 1 << 50})
		}
		c.Blues = append(c.Blues, b)
	}
	for k := range 8 {
		c.Bays = append(c.Bays, api.Bay{Place: 1 + k, Make: 8, Lab: 8, Rate: 10000})
	}
	return c
}

// copied is a catalogue that shares nothing with another one.
func copied(c api.Catalog) api.Catalog {
	c.Blues, c.Bays = slices.Clone(c.Blues), slices.Clone(c.Bays)
	for k := range c.Blues {
		c.Blues[k].Needs = slices.Clone(c.Blues[k].Needs)
	}
	return c
}

// with is a catalogue, changed; the other one stays as it is.
func with(c api.Catalog, change func(c *api.Catalog)) api.Catalog {
	c = copied(c)
	change(&c)
	return c
}

// sameBlue and same tell whether two are the same; nil and the empty list are.
func sameBlue(a, b api.Blue) bool {
	return a.Makes == b.Makes && a.Per == b.Per && a.Time == b.Time && slices.Equal(a.Needs, b.Needs) && a.Copy == b.Copy && a.Study == b.Study && a.Most == b.Most
}

func same(a, b api.Catalog) bool {
	return a.Types == b.Types && slices.EqualFunc(a.Blues, b.Blues, sameBlue) && a.Places == b.Places && slices.Equal(a.Bays, b.Bays) && a.Chars == b.Chars && a.Fees == b.Fees
}

// bound is between what and what a number of a catalogue is to be, and where it stands.
type bound struct {
	name      string
	low, high int
	at        func(c *api.Catalog) *int
}

// bounds are those of all numbers of a catalogue, in the chapter's words; that of Types is left out, as its blueprints hang on it, and so is Places.
func bounds(c api.Catalog) []bound {
	l := []bound{
		{"Chars", 1, 16, func(c *api.Catalog) *int { return &c.Chars }},
		{"Broker", 0, 10000, func(c *api.Catalog) *int { return &c.Fees.Broker }},
		{"Least", 0, 1 << 60, func(c *api.Catalog) *int { return &c.Fees.Least }},
		{"Sales", 0, 10000, func(c *api.Catalog) *int { return &c.Fees.Sales }},
	}
	for k := range c.Bays {
		l = append(l,
			bound{"Place", 1, c.Places, func(c *api.Catalog) *int { return &c.Bays[k].Place }},
			bound{"Make", 0, 8, func(c *api.Catalog) *int { return &c.Bays[k].Make }},
			bound{"Lab", 0, 8, func(c *api.Catalog) *int { return &c.Bays[k].Lab }},
			bound{"Rate", 0, 10000, func(c *api.Catalog) *int { return &c.Bays[k].Rate }},
		)
	}
	for k, b := range c.Blues {
		l = append(l,
			bound{"Per", 1, 1 << 20, func(c *api.Catalog) *int { return &c.Blues[k].Per }},
			bound{"Time", 1, 1 << 20, func(c *api.Catalog) *int { return &c.Blues[k].Time }},
			bound{"Copy", 0, 1 << 20, func(c *api.Catalog) *int { return &c.Blues[k].Copy }},
			bound{"Study", 0, 1 << 20, func(c *api.Catalog) *int { return &c.Blues[k].Study }},
			bound{"Most", 1, 1000, func(c *api.Catalog) *int { return &c.Blues[k].Most }},
		)
		for j := range b.Needs {
			l = append(l, bound{"Qty", 1, 1 << 50, func(c *api.Catalog) *int { return &c.Blues[k].Needs[j].Qty }})
		}
	}
	return l
}

// isBlue tells whether a blueprint's types may be, in the words of layer 12.
func isBlue(b api.Blue, types int) bool {
	if b.Makes < 1 || b.Makes > types || len(b.Needs) > 8 {
		return false
	}
	for k, s := range b.Needs {
		if s.Type < 1 || s.Type > types || s.Type == b.Makes || k > 0 && b.Needs[k-1].Type >= s.Type {
			return false
		}
	}
	return true
}

// isArg tells whether a catalogue has something that may not be by itself.
func isArg(c api.Catalog) bool {
	if c.Types < 1 || c.Types > 32 || c.Places < 1 || c.Places > 8 || len(c.Blues) > 16 || len(c.Bays) > 8 {
		return true
	}
	return slices.ContainsFunc(c.Blues, func(b api.Blue) bool { return !isBlue(b, c.Types) }) ||
		slices.ContainsFunc(bounds(c), func(x bound) bool { n := *x.at(&c); return n < x.low || n > x.high })
}

// longest is of how many needs the longest row is, by another hand: from all types one goes on, need by need, till none is left, or there were more than types.
func longest(c api.Catalog) int {
	var at [33]bool
	for kind := range c.Types {
		at[kind+1] = true
	}
	for n := range c.Types + 1 {
		var next [33]bool
		some := false
		for _, b := range c.Blues {
			for _, s := range b.Needs {
				if at[b.Makes] {
					next[s.Type], some = true, true
				}
			}
		}
		if !some {
			return n
		}
		at = next
	}
	return c.Types
}

// check is Check by another hand.
func check(c api.Catalog) api.Errno {
	if isArg(c) {
		return api.ErrArg
	}
	n := longest(c)
	if n == c.Types {
		return api.ErrState
	}
	if n > 8 {
		return api.ErrOver
	}
	return api.OK
}

// bytes are a catalogue's bytes by another hand, also of one that may not be.
func bytes(c api.Catalog) string {
	var l []byte
	put := func(n ...int) {
		for _, m := range n {
			l = binary.AppendUvarint(l, uint64(m))
		}
	}
	put(c.Types, len(c.Blues))
	for _, b := range c.Blues {
		put(b.Makes, b.Per, b.Time, len(b.Needs))
		for _, s := range b.Needs {
			put(s.Type, s.Qty)
		}
		put(b.Copy, b.Study, b.Most)
	}
	put(c.Places, len(c.Bays))
	for _, b := range c.Bays {
		put(b.Place, b.Make, b.Lab, b.Rate)
	}
	put(c.Chars, c.Fees.Broker, c.Fees.Least, c.Fees.Sales)
	return string(l)
}

// held holds Check, Put, and Take of the bytes, against what is wanted.
func held(t *testing.T, what string, c api.Catalog, want api.Errno) {
	t.Helper()
	ahead := copied(c)
	if e := catalog.Check(c); e != want {
		t.Errorf("%s: Check of %v: %d, want %d", what, c, e, want)
	}
	text := ""
	if want == api.OK {
		text = bytes(c)
	}
	if s, e := catalog.Put(c); s != text || e != want {
		t.Errorf("%s: Put of %v: %x, %d, want %x, %d", what, c, s, e, text, want)
	}
	d, e := catalog.Take(bytes(c))
	if want == api.OK && (e != api.OK || !same(d, c)) {
		t.Errorf("%s: Take of the bytes of %v: %v, %d", what, c, d, e)
	}
	if want != api.OK && (e != api.ErrBad || !zero(d)) {
		t.Errorf("%s: Take of the bytes of %v, which may not be: %v, %d", what, c, d, e)
	}
	if !same(c, ahead) {
		t.Errorf("%s: of %v became %v", what, ahead, c)
	}
}

// zero tells whether nothing stands in a catalogue.
func zero(c api.Catalog) bool { return same(c, api.Catalog{}) }

// bad holds that bytes are those of no catalogue.
func bad(t *testing.T, what, s string) {
	t.Helper()
	if c, e := catalog.Take(s); e != api.ErrBad || !zero(c) {
		t.Errorf("%s: Take of %x: %v, %d", what, s, c, e)
	}
}

// Ct1: catalogues that may be: the least one, the greatest one, and between.
func TestCt1May(t *testing.T) {
	for _, c := range []api.Catalog{
		bare(1), bare(32), plain(), full(),
		bare(2, blue(1, 2)), bare(2, blue(2, 1)), bare(1, blue(1)), bare(3, blue(3, 1, 2), blue(2, 1)),
		bare(2, slices.Repeat([]api.Blue{blue(2, 1)}, 16)...), // a type may be made by many
		{Types: 1, Blues: []api.Blue{}, Places: 1, Bays: []api.Bay{}, Chars: 1},
		{Types: 1, Places: 1, Bays: slices.Repeat([]api.Bay{{Place: 1}}, 8), Chars: 1},
	} {
		held(t, "may be", c, api.OK)
	}
	held(t, "nothing", api.Catalog{}, api.ErrArg)
}

// edges are numbers about bounds, and far from them.
func edges(low, high int) []int {
	return []int{least, least + 1, -1 << 32, -low - 1, -1, low - 1, low, low + 1, high - 1, high, high + 1, high + 256, high + 1<<32, most - 1, most}
}

// Ct1: how many types, places and characters there may be.
func TestCt1Counts(t *testing.T) {
	for _, x := range []bound{
		{"Types", 1, 32, func(c *api.Catalog) *int { return &c.Types }},
		{"Places", 1, 8, func(c *api.Catalog) *int { return &c.Places }},
		{"Chars", 1, 16, func(c *api.Catalog) *int { return &c.Chars }},
	} {
		for _, n := range append(edges(x.low, x.high), 2, 7, 8, 9, 15, 16, 17, 31, 32, 33, 64, 65) {
			c := bare(1)
			*x.at(&c) = n
			want := api.OK
			if n < x.low || n > x.high {
				want = api.ErrArg
			}
			held(t, x.name, c, want)
		}
	}
}

// Ct1: each number of each blueprint and each bay, and of the fees, at its edges.
func TestCt1Bounds(t *testing.T) {
	for _, c := range []api.Catalog{plain(), full()} {
		for _, x := range bounds(c) {
			for _, n := range edges(x.low, x.high) {
				want := api.OK
				if n < x.low || n > x.high {
					want = api.ErrArg
				}
				held(t, x.name, with(c, func(c *api.Catalog) { *x.at(c) = n }), want)
			}
		}
	}
}

// Ct1: how many blueprints and bays there may be.
func TestCt1Lists(t *testing.T) {
	for n := range 40 {
		c := bare(3, slices.Repeat([]api.Blue{blue(3, 1, 2)}, n)...)
		held(t, "blueprints", c, check(c))
		if (n > 16) != (check(c) == api.ErrArg) {
			t.Errorf("%d blueprints: %d", n, check(c))
		}
		c = bare(3)
		c.Bays = slices.Repeat([]api.Bay{{Place: 1, Make: 1}}, n)
		held(t, "bays", c, check(c))
		if (n > 8) != (check(c) == api.ErrArg) {
			t.Errorf("%d bays: %d", n, check(c))
		}
	}
	c := bare(3, slices.Repeat([]api.Blue{blue(3, 1, 2)}, 1<<16)...)
	c.Bays = slices.Repeat([]api.Bay{{Place: 1}}, 1<<16)
	held(t, "many", c, api.ErrArg)
}

// wrong are blueprints that may not be, of 5 types.
func wrong() []api.Blue {
	l := []api.Blue{
		{},
		blue(0), blue(-1), blue(6), blue(32), blue(33), blue(least), blue(most),
		blue(5, 5), blue(1, 1, 2), blue(5, 1, 5), // made of itself
		blue(5, 0), blue(5, -1), blue(5, 6), blue(5, 1, 6), blue(5, 33), blue(1, 2, 3, 4, 5, 6),
		blue(5, 2, 1), blue(5, 1, 1), blue(5, 1, 3, 2), // not rising
		blue(5, 1, 2, 3, 4, 6, 7, 8, 9, 10), blue(5, 1, 2, 3, 4, 1, 2, 3, 4, 1),
	}
	for _, qty := range []int{0, -1, 1<<50 + 1, least, most} {
		b := blue(5, 1, 2)
		b.Needs[1].Qty = qty
		l = append(l, b)
	}
	for _, change := range []func(b *api.Blue){
		func(b *api.Blue) { b.Per = 0 }, func(b *api.Blue) { b.Per = span + 1 },
		func(b *api.Blue) { b.Time = 0 }, func(b *api.Blue) { b.Time = span + 1 },
		func(b *api.Blue) { b.Copy = -1 }, func(b *api.Blue) { b.Copy = span + 1 },
		func(b *api.Blue) { b.Study = -1 }, func(b *api.Blue) { b.Study = span + 1 },
		func(b *api.Blue) { b.Most = 0 }, func(b *api.Blue) { b.Most = 1001 },
	} {
		b := blue(5, 1, 2)
		change(&b)
		l = append(l, b)
	}
	return l
}

// Ct1: a blueprint that may not be, wherever it stands.
func TestCt1Blues(t *testing.T) {
	for _, b := range wrong() {
		held(t, "alone", bare(5, b), api.ErrArg)
		for _, at := range []int{0, 1, 2, 14, 15} {
			c := bare(5, slices.Repeat([]api.Blue{blue(5, 1, 2)}, 16)...)
			c.Blues[at] = b
			held(t, "among others", c, api.ErrArg)
		}
	}
}

// Ct1: blueprints are looked at by the types that there are, bays by the places.
func TestCt1Hang(t *testing.T) {
	for types := 1; types <= 32; types++ {
		for kind := 1; kind <= 33; kind++ {
			want := api.OK
			if kind > types {
				want = api.ErrArg
			}
			held(t, "made", bare(types, blue(kind)), want)
			if kind > 1 {
				held(t, "needed", bare(types, blue(1, kind)), want)
			}
		}
	}
	for places := 1; places <= 8; places++ {
		for place := range 10 {
			for at := range 8 {
				c := bare(1)
				c.Places, c.Bays = places, slices.Repeat([]api.Bay{{Place: 1}}, 8)
				c.Bays[at].Place = place
				want := api.OK
				if place < 1 || place > places {
					want = api.ErrArg
				}
				held(t, "bay", c, want)
			}
		}
	}
}

// ring are blueprints of which each makes what the next one needs, and the last one what the first one needs.
func ring(long int) []api.Blue {
	var l []api.Blue
	for k := range long {
		l = append(l, blue(1+k, 1+(k+1)%long))
	}
	return l
}

// chain are blueprints of which each needs what the one ahead of it makes: the last one stands so deep.
func chain(deep int) []api.Blue {
	var l []api.Blue
	for k := range deep {
		l = append(l, blue(2+k, 1+k))
	}
	return l
}

// Ct1: needs that lead round, wherever.
func TestCt1Round(t *testing.T) {
	held(t, "the chapter's example", bare(2, blue(1, 2), blue(2, 1)), api.ErrState)
	for long := 2; long <= 16; long++ {
		for _, types := range []int{long, 17, 32} {
			if types < long {
				continue
			}
			c := bare(types, ring(long)...)
			held(t, "a ring", c, api.ErrState)
			slices.Reverse(c.Blues)
			held(t, "a ring the other way", c, api.ErrState)
		}
	}
	// Which blueprint of a type leads round does not matter.
	held(t, "the first one", bare(4, blue(2, 1), blue(1, 2), blue(2, 3)), api.ErrState)
	held(t, "the second one", bare(4, blue(2, 3), blue(2, 1), blue(1, 2)), api.ErrState)
	held(t, "the last need", bare(4, blue(4, 1, 2, 3), blue(3, 4)), api.ErrState)
	held(t, "below another one", bare(4, blue(4, 3), blue(3, 2), blue(2, 3)), api.ErrState)
	held(t, "by two ways", bare(4, blue(4, 2, 3), blue(3, 1), blue(2, 1)), api.OK)
}

// Ct1: a type may stand 8 deep, and no deeper.
func TestCt1Deep(t *testing.T) {
	for deep := range 17 {
		want := api.OK
		if deep > 8 {
			want = api.ErrOver
		}
		for _, types := range []int{deep + 1, 32} {
			c := bare(types, chain(deep)...)
			held(t, "a chain", c, want)
			slices.Reverse(c.Blues)
			held(t, "a chain the other way", c, want)
		}
	}
	// The longest way down counts, by whichever blueprint.
	held(t, "one more ahead", bare(32, append([]api.Blue{blue(10, 9)}, chain(8)...)...), api.ErrOver)
	held(t, "by the second one", bare(32, append(chain(8), blue(10, 1), blue(10, 9))...), api.ErrOver)
	held(t, "by the first one", bare(32, append(chain(8), blue(10, 9), blue(10, 1))...), api.ErrOver)
	held(t, "by the last need", bare(32, append(chain(8), blue(10, 1, 2, 9))...), api.ErrOver)
	held(t, "one beside it", bare(32, append(chain(8), blue(10, 1, 8))...), api.OK)
	held(t, "one below it", bare(32, append(chain(8), blue(1, 20))...), api.ErrOver)
	held(t, "two chains", bare(32, append(chain(8), blue(20, 21), blue(21, 22))...), api.OK)
}

// Ct1: what may not be is told first, then what leads round, then what is too deep.
func TestCt1First(t *testing.T) {
	both := append(append(chain(9), blue(20, 21)), blue(21, 20))
	held(t, "round and too deep", bare(32, both...), api.ErrState)
	slices.Reverse(both)
	held(t, "too deep and round", bare(32, both...), api.ErrState)
	for _, blues := range [][]api.Blue{ring(2), ring(5), chain(9), chain(12), both} {
		c := bare(32, blues...)
		c.Bays = []api.Bay{{Place: 1}, {Place: 1}}
		for k, change := range []func(c *api.Catalog){
			func(c *api.Catalog) { c.Types = 33 }, func(c *api.Catalog) { c.Types = 0 }, func(c *api.Catalog) { c.Types = 1 },
			func(c *api.Catalog) { c.Places = 0 }, func(c *api.Catalog) { c.Places = 9 },
			func(c *api.Catalog) { c.Chars = 0 }, func(c *api.Catalog) { c.Chars = 17 },
			func(c *api.Catalog) { c.Blues = slices.Repeat(c.Blues, 16) }, func(c *api.Catalog) { c.Bays = slices.Repeat(c.Bays, 5) },
			func(c *api.Catalog) { c.Blues = append(c.Blues, blue(32, 32)) }, func(c *api.Catalog) { c.Blues[0].Most = 0 },
			func(c *api.Catalog) { c.Bays[1].Place = 2 }, func(c *api.Catalog) { c.Bays[0].Make = 9 }, func(c *api.Catalog) { c.Bays[1].Lab = -1 }, func(c *api.Catalog) { c.Bays[1].Rate = 10001 },
			func(c *api.Catalog) { c.Fees.Broker = -1 }, func(c *api.Catalog) { c.Fees.Sales = 10001 }, func(c *api.Catalog) { c.Fees.Least = 1<<60 + 1 },
		} {
			d := with(c, change)
			if e := catalog.Check(d); e != api.ErrArg {
				t.Errorf("%d: Check of %v: %d", k, d, e)
			}
			if s, e := catalog.Put(d); s != "" || e != api.ErrArg {
				t.Errorf("%d: Put of %v: %x, %d", k, d, s, e)
			}
		}
	}
}

// Ct1: all catalogues of three types and of up to three blueprints that need one or two of them, against another hand.
func TestCt1Small(t *testing.T) {
	l := []api.Blue{blue(1), blue(1, 2), blue(1, 3), blue(1, 2, 3), blue(2, 1), blue(2, 3), blue(2, 1, 3), blue(3, 1), blue(3, 2), blue(3, 1, 2), blue(3, 3)}
	for _, a := range l {
		for _, b := range l {
			for _, c := range l {
				d := bare(3, a, b, c)
				held(t, "small", d, check(d))
			}
		}
	}
}

// chosen is a catalogue by chance, of which all may be but its blueprints' needs: they may lead round, or too deep.
func chosen(r *rand.Rand) api.Catalog {
	c := api.Catalog{Types: 1 + r.IntN(32), Places: 1 + r.IntN(8), Chars: 1 + r.IntN(16), Fees: api.Fees{Broker: r.IntN(10001), Least: r.IntN(1 << r.IntN(61)), Sales: r.IntN(10001)}}
	for range r.IntN(9) {
		c.Bays = append(c.Bays, api.Bay{Place: 1 + r.IntN(c.Places), Make: r.IntN(9), Lab: r.IntN(9), Rate: r.IntN(10001)})
	}
	// Needs lead down in a row of all types by chance, far or not, but for some.
	row := r.Perm(c.Types)
	many, down, far, each := 1+r.IntN(8), r.IntN(6) > 0, 1+r.IntN(1+r.IntN(c.Types)), r.IntN(2) == 0
	for k := range r.IntN(17) {
		at := r.IntN(c.Types)
		if each {
			at = k % c.Types
		}
		b := api.Blue{Makes: row[at] + 1, Per: 1 + r.IntN(1<<r.IntN(21)), Time: 1 + r.IntN(1<<r.IntN(21)), Copy: r.IntN(span + 1), Study: r.IntN(1 << r.IntN(21)), Most: 1 + r.IntN(1000)}
		kinds := map[int]bool{}
		for range r.IntN(many + 1) {
			to := at - 1 - r.IntN(far)
			if !down {
				to = r.IntN(c.Types)
			}
			if to >= 0 && to != at {
				kinds[row[to]+1] = true
			}
		}
		for kind := range c.Types + 1 {
			if kinds[kind] {
				b.Needs = append(b.Needs, api.Stack{Type: kind, Qty: 1 + r.IntN(1<<r.IntN(51))})
			}
		}
		c.Blues = append(c.Blues, b)
	}
	return c
}

// spoilt is a catalogue of which a number by chance is another one, that may be or not.
func spoilt(r *rand.Rand, c api.Catalog) api.Catalog {
	c = copied(c)
	l := append(bounds(c),
		bound{"Types", 1, 32, func(c *api.Catalog) *int { return &c.Types }},
		bound{"Places", 1, 8, func(c *api.Catalog) *int { return &c.Places }})
	for k, b := range c.Blues {
		l = append(l, bound{"Makes", 1, 32, func(c *api.Catalog) *int { return &c.Blues[k].Makes }})
		for j := range b.Needs {
			l = append(l, bound{"Type", 1, 32, func(c *api.Catalog) *int { return &c.Blues[k].Needs[j].Type }})
		}
	}
	x := l[r.IntN(len(l))]
	e := append(edges(x.low, x.high), 1+r.IntN(32), 1+r.IntN(8))
	*x.at(&c) = e[r.IntN(len(e))]
	return c
}

// Ct1, Ct3: catalogues by chance, good and wrong ones, against another hand.
func TestCt1Chance(t *testing.T) {
	r := chance()
	got := map[api.Errno]int{}
	for range 6000 {
		c := chosen(r)
		held(t, "by chance", c, check(c))
		got[check(c)]++
		c = spoilt(r, c)
		held(t, "spoilt", c, check(c))
	}
	for _, e := range []api.Errno{api.OK, api.ErrState, api.ErrOver} {
		if got[e] < 50 {
			t.Errorf("of %d there were just %d", e, got[e])
		}
	}
}

// Ct2: Needs, in words that are written out: in order, and as often as they are there.
func TestCt2Needs(t *testing.T) {
	for _, x := range []struct {
		c    api.Catalog
		want [][2]int
	}{
		{api.Catalog{}, nil},
		{bare(3), nil},
		{bare(3, blue(1), blue(2)), nil},
		{bare(3, blue(3, 1, 2)), [][2]int{{3, 1}, {3, 2}}},
		{bare(3, blue(3, 1, 2), blue(2, 1)), [][2]int{{3, 1}, {3, 2}, {2, 1}}},
		{bare(3, blue(2, 1), blue(1), blue(3, 1, 2)), [][2]int{{2, 1}, {3, 1}, {3, 2}}},
		{bare(3, blue(2, 1), blue(2, 1), blue(2, 3)), [][2]int{{2, 1}, {2, 1}, {2, 3}}},
		{plain(), [][2]int{{5, 1}, {5, 3}, {3, 2}}},
		// Also of one that may not be.
		{bare(2, blue(1, 2), blue(2, 1)), [][2]int{{1, 2}, {2, 1}}},
		{api.Catalog{Types: -1, Blues: []api.Blue{blue(7, 9, 8, 9), blue(0, -1), blue(5, 5)}}, [][2]int{{7, 9}, {7, 8}, {7, 9}, {0, -1}, {5, 5}}},
	} {
		if l := catalog.Needs(x.c); !slices.Equal(l, x.want) {
			t.Errorf("Needs of %v: %v, want %v", x.c, l, x.want)
		}
	}
	l := catalog.Needs(full())
	if len(l) != 128 || l[0] != [2]int{17, 1} || l[8] != [2]int{18, 9} || l[127] != [2]int{32, 16} {
		t.Errorf("Needs of the greatest catalogue: %v", l)
	}
}

// Ct2: Maker, in words that are written out: the least number.
func TestCt2Maker(t *testing.T) {
	c := bare(9, blue(3, 1), blue(2, 1), blue(3, 2), blue(9), blue(2), blue(1))
	for kind, want := range []int{0, 6, 2, 1, 0, 0, 0, 0, 0, 4, 0} {
		if n := catalog.Maker(c, kind); n != want {
			t.Errorf("Maker of %d: %d, want %d", kind, n, want)
		}
	}
	for _, kind := range []int{least, -1, 0, 10, 32, 33, most} {
		for _, c := range []api.Catalog{{}, c, plain()} {
			if n := catalog.Maker(c, kind); n != 0 {
				t.Errorf("Maker of %d in %v: %d", kind, c, n)
			}
		}
	}
	for k := range 16 {
		if n := catalog.Maker(full(), 17+k); n != k+1 {
			t.Errorf("Maker of %d in the greatest catalogue: %d", 17+k, n)
		}
		if n := catalog.Maker(full(), 1+k); n != 0 {
			t.Errorf("Maker of %d in the greatest catalogue: %d", 1+k, n)
		}
	}
}

// Ct2: Blue and Bay are those with the numbers from 1 on, and no others.
func TestCt2Blue(t *testing.T) {
	wide := bare(1, slices.Repeat([]api.Blue{blue(1, 1)}, 20)...)
	wide.Bays = slices.Repeat([]api.Bay{{Place: 77}}, 30) // also of one that may not be
	for _, c := range []api.Catalog{{}, bare(1), bare(2, blue(2, 1)), plain(), full(), wide} {
		for n := -2; n < 40; n++ {
			b, e := catalog.Blue(c, n)
			if n >= 1 && n <= len(c.Blues) {
				if !sameBlue(b, c.Blues[n-1]) || e != api.OK {
					t.Errorf("Blue %d of %v: %v, %d", n, c, b, e)
				}
			} else if !sameBlue(b, api.Blue{}) || e != api.ErrNone {
				t.Errorf("Blue %d of %v: %v, %d", n, c, b, e)
			}
			x, e := catalog.Bay(c, n)
			if n >= 1 && n <= len(c.Bays) {
				if x != c.Bays[n-1] || e != api.OK {
					t.Errorf("Bay %d of %v: %v, %d", n, c, x, e)
				}
			} else if x != (api.Bay{}) || e != api.ErrNone {
				t.Errorf("Bay %d of %v: %v, %d", n, c, x, e)
			}
		}
		for _, n := range []int{least, least + 1, -1 << 32, 1 << 32, 1<<32 + 1, most - 1, most} {
			if b, e := catalog.Blue(c, n); !sameBlue(b, api.Blue{}) || e != api.ErrNone {
				t.Errorf("Blue %d of %v: %v, %d", n, c, b, e)
			}
			if x, e := catalog.Bay(c, n); x != (api.Bay{}) || e != api.ErrNone {
				t.Errorf("Bay %d of %v: %v, %d", n, c, x, e)
			}
		}
	}
}

// written is a catalogue of which each number is another one, and its bytes.
func written() (api.Catalog, string) {
	c := api.Catalog{
		Types: 31,
		Blues: []api.Blue{
			{Makes: 30, Per: 4, Time: 300, Needs: of(5, 6, 7, 128), Copy: 8, Study: 9, Most: 10},
			{Makes: 11, Per: 12, Time: 13, Copy: 14, Study: 15, Most: 16},
		},
		Places: 7,
		Bays:   []api.Bay{{Place: 6, Make: 5, Lab: 4, Rate: 127}},
		Chars:  13,
		Fees:   api.Fees{Broker: 17, Least: 16384, Sales: 18},
	}
	return c, "\x1f\x02" +
		"\x1e\x04\xac\x02" + "\x02\x05\x06\x07\x80\x01" + "\x08\x09\x0a" +
		"\x0b\x0c\x0d" + "\x00" + "\x0e\x0f\x10" +
		"\x07\x01" + "\x06\x05\x04\x7f" +
		"\x0d" + "\x11\x80\x80\x01\x12"
}

// Ct3: bytes that are written out.
func TestCt3Written(t *testing.T) {
	c, want := written()
	for _, x := range []struct {
		c api.Catalog
		s string
	}{
		{c, want},
		{bare(1), "\x01\x00\x01\x00\x01\x00\x00\x00"},
		{bare(2, blue(2, 1)), "\x02\x01\x02\x01\x01\x01\x01\x01\x00\x00\x01\x01\x00\x01\x00\x00\x00"},
	} {
		if s, e := catalog.Put(x.c); s != x.s || e != api.OK {
			t.Errorf("Put of %v: %x, %d, want %x", x.c, s, e, x.s)
		}
		if c, e := catalog.Take(x.s); !same(c, x.c) || e != api.OK {
			t.Errorf("Take of %x: %v, %d, want %v", x.s, c, e, x.c)
		}
	}
}

// Ct3: what is torn, or has something behind it, is no catalogue.
func TestCt3Torn(t *testing.T) {
	c, _ := written()
	for _, c := range []api.Catalog{c, bare(1), plain(), full(), bare(2, blue(2, 1))} {
		s := bytes(c)
		for k := range len(s) {
			bad(t, "torn", s[:k])
			if k > 0 {
				bad(t, "without its beginning", s[k:])
			}
		}
		for _, more := range []string{"\x00", "\x01", "\x80", "\xff", s} {
			bad(t, "with something behind", s+more)
		}
	}
	bad(t, "nothing", "")
	bad(t, "zeros", strings.Repeat("\x00", 8))
	bad(t, "much", strings.Repeat("\x01", 1<<16))
	bad(t, "much", strings.Repeat("\xff", 1<<16))
}

// Ct3: a number with a 0 on top, or beyond an int, is no number, wherever it stands.
func TestCt3NoNumber(t *testing.T) {
	for _, c := range []api.Catalog{bare(1), bare(2, blue(2, 1)), plain()} {
		s := bytes(c)
		for k := range len(s) {
			if s[k] >= 128 {
				continue
			}
			bad(t, "with a 0 on top", s[:k]+string([]byte{s[k] | 128})+"\x00"+s[k+1:])
			if k == 0 || s[k-1] < 128 {
				bad(t, "beyond an int", s[:k]+string(binary.AppendUvarint(nil, 1<<63+uint64(s[k])))+s[k+1:])
				bad(t, "beyond 64 bits", s[:k]+strings.Repeat("\xff", 9)+"\x02"+s[k+1:])
			}
		}
	}
}

// Ct3: lists that have more than there may be, or fewer than is said, are none.
func TestCt3Lists(t *testing.T) {
	for n := range 40 {
		c := bare(32, slices.Repeat([]api.Blue{blue(32)}, n)...)
		if n > 16 {
			bad(t, "blueprints", bytes(c))
		}
		c = bare(32)
		c.Bays = slices.Repeat([]api.Bay{{Place: 1}}, n)
		if n > 8 {
			bad(t, "bays", bytes(c))
		}
		b := blue(32)
		for k := range min(n, 31) {
			b.Needs = append(b.Needs, api.Stack{Type: 1 + k, Qty: 1})
		}
		if n > 8 {
			bad(t, "needs", bytes(bare(32, b)))
		}
	}
	for _, n := range []uint64{17, 127, 1 << 20, 1 << 40, most, 1 << 63, math.MaxUint64} {
		many := string(binary.AppendUvarint(nil, n))
		behind := strings.Repeat("\x01", 300)
		bad(t, "many blueprints", "\x01"+many+behind)
		bad(t, "many needs", "\x02\x01\x02\x01\x01"+many+behind)
		bad(t, "many bays", "\x01\x00\x01"+many+behind)
	}
}

// Ct4: what was taken is put as those bytes; there are no others, whatever byte is changed, left out, or put in.
func TestCt4NoOtherBytes(t *testing.T) {
	first, _ := written()
	taken := 0
	for _, c := range []api.Catalog{first, bare(1), bare(2, blue(2, 1)), plain()} {
		s := bytes(c)
		for k := range len(s) {
			for b := range 256 {
				for _, x := range []string{s[:k] + string([]byte{byte(b)}) + s[k+1:], s[:k] + string([]byte{byte(b)}) + s[k:]} {
					taken += again(t, c, s, x)
				}
			}
			again(t, c, s, s[:k]+s[k+1:])
		}
	}
	if taken < 1000 {
		t.Errorf("just %d were taken", taken)
	}
}

// again holds that bytes, made of those of a catalogue, are those of another catalogue, or of none; 1, if of one.
func again(t *testing.T, c api.Catalog, s, x string) int {
	t.Helper()
	d, e := catalog.Take(x)
	if e != api.OK {
		if e != api.ErrBad || !zero(d) || x == s {
			t.Errorf("Take of %x: %v, %d", x, d, e)
		}
		return 0
	}
	back, e := catalog.Put(d)
	if back != x || e != api.OK || check(d) != api.OK || (x == s) != same(c, d) {
		t.Errorf("%x is taken as %v, and put as %x, %d", x, d, back, e)
	}
	return 1
}

// Ct4: all short bytes of small numbers.
func TestCt4Short(t *testing.T) {
	taken := 0
	var l [9]byte
	var more func(n int)
	more = func(n int) {
		if n == len(l) {
			return
		}
		for b := range byte(4) {
			l[n] = b
			s := string(l[:n+1])
			c, e := catalog.Take(s)
			if e == api.OK {
				taken++
			}
			if back, err := catalog.Put(c); e == api.OK && (back != s || err != api.OK) || e != api.OK && (e != api.ErrBad || !zero(c)) {
				t.Fatalf("Take of %x: %v, %d; put as %x, %d", s, c, e, back, err)
			}
			more(n + 1)
		}
	}
	more(0)
	// Without blueprints and bays: 1 to 3 types, places and characters each, 0 to 3 of each of the fees.
	if want := 3 * 3 * 3 * 4 * 4 * 4; taken != want {
		t.Errorf("%d were taken, want %d", taken, want)
	}
}

// Ct4: unlike catalogues have unlike bytes.
func TestCt4Unlike(t *testing.T) {
	r := chance()
	of := map[string]api.Catalog{}
	for range 3000 {
		c := chosen(r)
		if check(c) != api.OK {
			continue
		}
		for range 4 {
			s, e := catalog.Put(c)
			if d, there := of[s]; e != api.OK || there && !same(c, d) {
				t.Fatalf("%v and %v are both put as %x, %d", c, d, s, e)
			}
			of[s] = copied(c)
			if d := spoilt(r, c); check(d) == api.OK {
				c = d
			}
		}
	}
	for s, c := range of {
		if d, e := catalog.Take(s); e != api.OK || !same(c, d) {
			t.Fatalf("%v was put, %v is taken, %d", c, d, e)
		}
	}
}

// R3: what is handed in is not changed, nor what lies behind the lists' ends, and that is not read.
func TestListsAreLeft(t *testing.T) {
	wide := plain()
	wide.Blues = append(wide.Blues, blue(1, 5), blue(0))
	wide.Bays = append(wide.Bays, api.Bay{Place: 9})
	for k := range wide.Blues {
		wide.Blues[k].Needs = append(wide.Blues[k].Needs, api.Stack{Type: 5, Qty: -1})
	}
	ahead := copied(wide)
	c := wide
	c.Blues, c.Bays = slices.Clone(wide.Blues)[:3], wide.Bays[:3]
	for k, b := range c.Blues {
		c.Blues[k].Needs = b.Needs[:len(b.Needs)-1]
	}
	if !same(c, plain()) {
		t.Fatalf("%v", c)
	}
	held(t, "with room behind", c, api.OK)
	for n := range 6 {
		catalog.Blue(c, n)
		if x, e := catalog.Bay(c, n); n > 3 && (x != (api.Bay{}) || e != api.ErrNone) {
			t.Errorf("Bay %d: %v, %d", n, x, e)
		}
	}
	if n := catalog.Maker(c, 1); n != 0 {
		t.Errorf("Maker of 1: %d", n)
	}
	if l := catalog.Needs(c); len(l) != 3 {
		t.Errorf("Needs: %v", l)
	}
	if !same(wide, ahead) || !same(c, plain()) {
		t.Errorf("behind the calls there is %v, %v", wide, c)
	}
}

// R3, R4: answers are new memory, of which no two lists share any; asked again they are the same.
func TestAnswersAreNew(t *testing.T) {
	c := plain()
	c.Blues[0].Needs = append(make([]api.Stack, 0, 8), c.Blues[0].Needs...)
	s := bytes(c)
	for range 2 {
		b, _ := catalog.Blue(c, 1)
		b.Needs[0] = api.Stack{Type: 9, Qty: 9}
		_ = append(b.Needs, api.Stack{Type: 8, Qty: 8})
		l := catalog.Needs(c)
		l[0] = [2]int{9, 9}
		_ = append(l, [2]int{8, 8})
		d, _ := catalog.Take(s)
		for k := range d.Blues {
			for j := range d.Blues[k].Needs {
				d.Blues[k].Needs[j] = api.Stack{Type: 9, Qty: 9}
			}
			_ = append(d.Blues[k].Needs, api.Stack{Type: 8, Qty: 8})
			if k+1 < len(d.Blues) && !slices.Equal(d.Blues[k+1].Needs, c.Blues[k+1].Needs) {
				t.Fatalf("lists share memory: %v", d)
			}
			d.Blues[k] = api.Blue{}
		}
		clear(d.Bays)
		if room := c.Blues[0].Needs[:3]; !same(c, plain()) || room[2] != (api.Stack{}) {
			t.Fatalf("what is answered is shared: %v, %v", c, room)
		}
	}
	b, e := catalog.Blue(c, 1)
	if !sameBlue(b, plain().Blues[0]) || e != api.OK || !slices.Equal(catalog.Needs(c), [][2]int{{5, 1}, {5, 3}, {3, 2}}) {
		t.Errorf("asked again: %v, %d, %v", b, e, catalog.Needs(c))
	}
	held(t, "asked again", c, api.OK)
}
