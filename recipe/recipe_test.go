package recipe_test

import (
	"bottomry/api"
	"bottomry/recipe"
	"math"
	"math/big"
	"math/rand/v2"
	"reflect"
	"slices"
	"testing"
)

const (
	most  = api.MaxQty
	span  = api.MaxSpan
	least = math.MinInt
)

// chance are numbers that are the same at each run.
func chance() *rand.Rand { return rand.New(rand.NewPCG(12, 29)) }

// of are stacks: a type, how many of it, and so on.
func of(n ...int) []api.Stack {
	var l []api.Stack
	for k := 0; k+1 < len(n); k += 2 {
		l = append(l, api.Stack{Type: n[k], Qty: n[k+1]})
	}
	return l
}

// plain is a blueprint that may be, of 5 types, and its needs.
func plain(needs ...int) api.Blue {
	return api.Blue{Makes: 5, Per: 4, Time: 60, Needs: of(needs...), Copy: 7, Study: 100, Most: 20}
}

// with is a plain blueprint, changed.
func with(change func(b *api.Blue)) api.Blue {
	b := plain(1, 10, 2, 1)
	change(&b)
	return b
}

// bound is between what and what a number of a blueprint is to be, and where it stands.
type bound struct {
	name      string
	low, high int
	at        func(b *api.Blue) *int
}

// bounds are those of a blueprint's numbers, of so many types.
func bounds(types int) []bound {
	return []bound{
		{"Makes", 1, types, func(b *api.Blue) *int { return &b.Makes }},
		{"Per", 1, 1 << 20, func(b *api.Blue) *int { return &b.Per }},
		{"Time", 1, 1 << 20, func(b *api.Blue) *int { return &b.Time }},
		{"Copy", 0, 1 << 20, func(b *api.Blue) *int { return &b.Copy }},
		{"Study", 0, 1 << 20, func(b *api.Blue) *int { return &b.Study }},
		{"Most", 1, 1000, func(b *api.Blue) *int { return &b.Most }},
	}
}

// blue tells whether a blueprint may be, of so many types, in the chapter's words.
func blue(b api.Blue, types int) bool {
	if types < 0 || types > 32 || len(b.Needs) > 8 {
		return false
	}
	for _, x := range bounds(types) {
		if n := *x.at(&b); n < x.low || n > x.high {
			return false
		}
	}
	for k, s := range b.Needs {
		if s.Type < 1 || s.Type > types || s.Type == b.Makes || s.Qty < 1 || s.Qty > 1<<50 {
			return false
		}
		if k > 0 && b.Needs[k-1].Type >= s.Type {
			return false
		}
	}
	return true
}

// up is the product of numbers, by another one, rounded up, by numbers without bounds.
func up(by int, l ...int) *big.Int {
	n := big.NewInt(1)
	for _, m := range l {
		n.Mul(n, big.NewInt(int64(m)))
	}
	n.Add(n, big.NewInt(int64(by-1)))
	return n.Div(n, big.NewInt(int64(by)))
}

// level tells whether a number may be a level, and runs whether it may be that of runs.
func level(n int) bool { return n >= 0 && n <= 10 }
func runs(n int) bool  { return n >= 1 && n <= 1000 }

// needs is Needs by another hand, as are those below.
func needs(b api.Blue, me, n int) ([]api.Stack, api.Errno) {
	if !blue(b, 32) || !level(me) || !runs(n) {
		return nil, api.ErrArg
	}
	l := slices.Clone(b.Needs)
	for k, s := range l {
		all := up(100, s.Qty, n, 100-me)
		if all.Cmp(big.NewInt(int64(n))) < 0 {
			all = big.NewInt(int64(n))
		}
		if all.Cmp(big.NewInt(1<<50)) > 0 {
			return nil, api.ErrOver
		}
		l[k].Qty = int(all.Int64())
	}
	return l, api.OK
}

func makes(b api.Blue, n int) (api.Stack, api.Errno) {
	if !blue(b, 32) || !runs(n) {
		return api.Stack{}, api.ErrArg
	}
	return api.Stack{Type: b.Makes, Qty: int(up(1, b.Per, n).Int64())}, api.OK
}

func time(b api.Blue, te, n int) (int, api.Errno) {
	if !blue(b, 32) || !level(te) || !runs(n) {
		return 0, api.ErrArg
	}
	return int(up(100, b.Time, n, 100-te-te).Int64()), api.OK
}

func study(b api.Blue, from, steps int) (int, api.Errno) {
	if !blue(b, 32) || !level(from) || steps < 1 || steps > 10 || from+steps > 10 {
		return 0, api.ErrArg
	}
	sum := 0
	for n := range steps {
		sum += b.Study * (from + 1 + n)
	}
	return sum, api.OK
}

func copies(b api.Blue, many, n int) (int, api.Errno) {
	if !blue(b, 32) || many < 1 || many > 10 || n < 1 || n > b.Most {
		return 0, api.ErrArg
	}
	return int(up(1, b.Copy, many, n).Int64()), api.OK
}

func until(b api.Blue, n int) (int, api.Errno) {
	if !blue(b, 32) || n < 0 || n > 1<<50 {
		return 0, api.ErrArg
	}
	return int(up(b.Per, n).Int64()), api.OK
}

// told looks at a number and an error; beside an error the number is to be 0.
func told(t *testing.T, what string, b api.Blue, about []int, n int, e api.Errno, want int, err api.Errno) {
	t.Helper()
	if n != want || e != err {
		t.Errorf("%s of %v, %v: %d, %d, want %d, %d", what, b, about, n, e, want, err)
	}
}

// same looks at a list of stacks and an error; beside an error the list is to be empty.
func same(t *testing.T, b api.Blue, about []int, l []api.Stack, e api.Errno, want []api.Stack, err api.Errno) {
	t.Helper()
	if !slices.Equal(l, want) || e != err {
		t.Errorf("Needs of %v, %v: %v, %d, want %v, %d", b, about, l, e, want, err)
	}
}

// asked holds all calls on a blueprint, with two numbers, against another hand.
func asked(t *testing.T, b api.Blue, n, m int) {
	t.Helper()
	about := []int{n, m}
	l, e := recipe.Needs(b, n, m)
	list, err := needs(b, n, m)
	same(t, b, about, l, e, list, err)
	s, e := recipe.Makes(b, m)
	if stack, err := makes(b, m); s != stack || e != err {
		t.Errorf("Makes of %v, %d: %v, %d, want %v, %d", b, m, s, e, stack, err)
	}
	got, e := recipe.Time(b, n, m)
	want, err := time(b, n, m)
	told(t, "Time", b, about, got, e, want, err)
	got, e = recipe.Study(b, n, m)
	want, err = study(b, n, m)
	told(t, "Study", b, about, got, e, want, err)
	got, e = recipe.Copy(b, n, m)
	want, err = copies(b, n, m)
	told(t, "Copy", b, about, got, e, want, err)
	got, e = recipe.Runs(b, n)
	want, err = until(b, n)
	told(t, "Runs", b, about, got, e, want, err)
}

// checked holds Check against what is wanted.
func checked(t *testing.T, b api.Blue, types int, may bool) {
	t.Helper()
	want := api.ErrArg
	if may {
		want = api.OK
	}
	if e := recipe.Check(b, types); e != want {
		t.Errorf("Check of %v, %d: %d, want %d", b, types, e, want)
	}
}

// numbers are numbers at the edges of what is handed in, good ones and wrong ones.
var numbers = []int{least, least + 1, -span, -1, 0, 1, 2, 3, 5, 7, 8, 9, 10, 11, 12, 19, 20, 21, 32, 33, 99, 100, 101, 999, 1000, 1001, span, most - 1, most, most + 1, math.MaxInt - 10, math.MaxInt - 1, math.MaxInt}

// blues are blueprints that may be: at the edges, and between.
func blues() []api.Blue {
	l := []api.Blue{
		plain(), plain(1, 10, 2, 1), plain(1, most), plain(1, most/1000, 2, most/1000+1),
		plain(1, 1, 2, 1, 3, 1, 4, 1, 6, 1, 7, 1, 8, 1, 32, 1),
		plain(1, 2, 2, 3, 3, 99, 4, 100, 6, 101, 7, 9, 8, 10, 9, 11),
		{Makes: 1, Per: 1, Time: 1, Most: 1},
		{Makes: 32, Per: span, Time: span, Needs: of(31, most), Copy: span, Study: span, Most: 1000},
		{Makes: 32, Per: span - 1, Time: span - 1, Needs: of(1, 1, 31, most-1), Copy: 1, Study: 1, Most: 999},
	}
	r := chance()
	for range 12 {
		l = append(l, chosen(r))
	}
	return l
}

// chosen is a blueprint by chance, that may be.
func chosen(r *rand.Rand) api.Blue {
	b := api.Blue{Makes: 1 + r.IntN(32), Per: 1 + r.IntN(1<<r.IntN(21)), Time: 1 + r.IntN(1<<r.IntN(21)), Copy: r.IntN(span + 1), Study: r.IntN(span + 1), Most: 1 + r.IntN(1000)}
	kinds := r.Perm(32)[:r.IntN(9)]
	slices.Sort(kinds)
	for _, kind := range kinds {
		if kind+1 != b.Makes {
			b.Needs = append(b.Needs, api.Stack{Type: kind + 1, Qty: 1 + r.IntN(1<<r.IntN(51))})
		}
	}
	return b
}

// wrong are blueprints that may not be, of however many types.
func wrong() []api.Blue {
	l := []api.Blue{
		{},
		plain(5, 1),
		plain(1, 1, 5, 1),
		plain(5, 1, 6, 1),
		plain(1, 1, 5, 1, 6, 1),
		plain(0, 1),
		plain(-1, 1),
		plain(least, 1),
		plain(33, 1),
		plain(math.MaxInt, 1),
		plain(1, 0),
		plain(1, -1),
		plain(1, least),
		plain(1, most+1),
		plain(1, math.MaxInt),
		plain(1, 1, 2, 0),
		plain(1, 1, 2, most+1),
		plain(2, 1, 1, 1),
		plain(1, 1, 1, 1),
		plain(1, 1, 3, 1, 2, 1),
		plain(1, 1, 2, 1, 3, 1, 4, 1, 6, 1, 7, 1, 8, 1, 9, 1, 10, 1),
	}
	for _, x := range bounds(32) {
		for _, n := range []int{least, -1, x.low - 1, x.high + 1, math.MaxInt} {
			l = append(l, with(func(b *api.Blue) { *x.at(b) = n }))
		}
	}
	return l
}

// Re1: Check, in words that are written out.
func TestRe1Written(t *testing.T) {
	b := plain(1, 10, 2, 1)
	for types, may := range map[int]bool{least: false, -1: false, 0: false, 1: false, 4: false, 5: true, 6: true, 31: true, 32: true, 33: false, math.MaxInt: false} {
		checked(t, b, types, may)
	}
	checked(t, plain(), 5, true)
	checked(t, with(func(b *api.Blue) { b.Needs = []api.Stack{} }), 5, true)
	checked(t, plain(6, 1), 5, false)
	checked(t, plain(6, 1), 6, true)
	checked(t, plain(4, most, 6, 1), 6, true)
	checked(t, plain(1, 1, 2, 1, 3, 1, 4, 1, 6, 1, 7, 1, 8, 1, 9, 1), 9, true)
	checked(t, plain(1, 1, 2, 1, 3, 1, 4, 1, 6, 1, 7, 1, 8, 1, 9, 1), 8, false)
	checked(t, plain(1, 1, 2, 1, 3, 1, 4, 1, 6, 1, 7, 1, 8, 1, 9, 1, 10, 1), 32, false)
	checked(t, api.Blue{Makes: 1, Per: 1, Time: 1, Most: 1}, 1, true) // no time to copy and to study is some, too
	checked(t, api.Blue{Makes: 1, Per: 1, Time: 1, Most: 1}, 0, false)
	checked(t, api.Blue{}, 0, false)
	checked(t, api.Blue{Per: 1, Time: 1, Most: 1}, 0, false) // of no types there is no blueprint
	checked(t, api.Blue{Makes: 33, Per: 1, Time: 1, Most: 1}, 33, false)
	for _, b := range wrong() {
		checked(t, b, 32, false)
	}
	for _, b := range blues() {
		checked(t, b, 32, true)
	}
}

// Re1: each number of a blueprint at its edges.
func TestRe1Bounds(t *testing.T) {
	for _, types := range []int{5, 6, 31, 32} {
		for _, x := range bounds(types) {
			for _, n := range []int{least, -1, 0, 1, 2, 5, 6, 7, 31, 32, 33, 999, 1000, 1001, span - 1, span, span + 1, most, math.MaxInt} {
				b := with(func(b *api.Blue) { b.Needs = of(3, 1); *x.at(b) = n })
				may := n >= x.low && n <= x.high
				checked(t, b, types, may && !(x.name == "Makes" && n == 3))
			}
		}
	}
}

// Re1: what is needed may be of all types but one.
func TestRe1Itself(t *testing.T) {
	for makes := 1; makes <= 32; makes++ {
		for kind := 1; kind <= 32; kind++ {
			b := with(func(b *api.Blue) { b.Makes, b.Needs = makes, of(kind, 1) })
			checked(t, b, 32, makes != kind)
			checked(t, b, 17, makes != kind && makes <= 17 && kind <= 17)
		}
	}
}

// Re1: blueprints by chance, of which one thing or another may not be, against another hand.
func TestRe1Chance(t *testing.T) {
	r := chance()
	kept := 0
	for range 20000 {
		b := chosen(r)
		if x := bounds(32); r.IntN(3) == 0 {
			*x[r.IntN(len(x))].at(&b) = numbers[r.IntN(len(numbers))]
		}
		if k := len(b.Needs); k > 0 && r.IntN(3) == 0 {
			b.Needs[r.IntN(k)].Type = numbers[r.IntN(len(numbers))]
		} else if k > 0 && r.IntN(3) == 0 {
			b.Needs[r.IntN(k)].Qty = numbers[r.IntN(len(numbers))]
		}
		types := r.IntN(35) - 1
		may := blue(b, types)
		checked(t, b, types, may)
		if may {
			kept++
		}
	}
	if kept < 1000 || kept > 19000 {
		t.Errorf("%d of all may be", kept)
	}
}

// Re1: of a blueprint that may not be nothing is told, whatever is asked.
func TestRe1Refused(t *testing.T) {
	for _, b := range wrong() {
		for _, x := range [][2]int{{0, 1}, {1, 1}, {10, 1000}, {-1, 1}, {1, 0}} {
			asked(t, b, x[0], x[1])
			if l, e := recipe.Needs(b, x[0], x[1]); l != nil || e != api.ErrArg {
				t.Errorf("Needs of %v: %v, %d", b, l, e)
			}
		}
	}
}

// Re1: where nothing is told, 1 to 32 types are what a blueprint may be of.
func TestRe1AllTypes(t *testing.T) {
	b := with(func(b *api.Blue) { b.Makes, b.Needs = 32, of(31, 7) })
	for _, x := range [][2]int{{0, 1}, {1, 1}, {3, 20}} {
		asked(t, b, x[0], x[1])
	}
	if s, e := recipe.Makes(b, 2); s != (api.Stack{Type: 32, Qty: 8}) || e != api.OK {
		t.Errorf("Makes: %v, %d", s, e)
	}
	b.Makes = 33
	if s, e := recipe.Makes(b, 2); s != (api.Stack{}) || e != api.ErrArg {
		t.Errorf("Makes: %v, %d", s, e)
	}
}

// Re1, Re2: all numbers at the edges, of all blueprints, against another hand.
func TestRe2Edges(t *testing.T) {
	for _, b := range append(blues(), plain(1, most+1)) {
		for _, n := range numbers {
			for _, m := range numbers {
				asked(t, b, n, m)
			}
		}
	}
}

// Re2: Needs, in words that are written out.
func TestRe2NeedsWritten(t *testing.T) {
	for _, x := range []struct {
		needs       []api.Stack
		level, runs int
		want        []api.Stack
		e           api.Errno
	}{
		{nil, 0, 1, nil, api.OK},
		{nil, 10, 1000, nil, api.OK},
		{of(1, 10), 5, 3, of(1, 29), api.OK}, // 28.5: rounded up when all runs are together
		{of(1, 1), 10, 3, of(1, 3), api.OK},
		{of(1, 1), 5, 3, of(1, 3), api.OK},
		{of(1, 1), 10, 1000, of(1, 1000), api.OK}, // 900, if each run did not need one
		{of(1, 2), 10, 1000, of(1, 1800), api.OK},
		{of(1, 10, 2, 1), 0, 1, of(1, 10, 2, 1), api.OK},
		{of(1, 10, 2, 1), 0, 7, of(1, 70, 2, 7), api.OK},
		{of(1, 10, 2, 1), 1, 1, of(1, 10, 2, 1), api.OK}, // 9.9
		{of(1, 10, 2, 1), 1, 10, of(1, 99, 2, 10), api.OK},
		{of(1, 10, 2, 1), 1, 11, of(1, 109, 2, 11), api.OK}, // 108.9
		{of(1, 10, 2, 1), 10, 1, of(1, 9, 2, 1), api.OK},
		{of(1, 100, 3, 101), 10, 1, of(1, 90, 3, 91), api.OK}, // 90.9
		{of(7, 100, 8, 200, 9, 300), 3, 2, of(7, 194, 8, 388, 9, 582), api.OK},
		{of(1, most), 0, 1, of(1, most), api.OK},
		{of(1, most), 10, 1, of(1, most-most/10), api.OK},
		{of(1, most), 0, 2, nil, api.ErrOver},
		{of(1, most), 10, 2, nil, api.ErrOver},
		{of(1, most), 10, 1000, nil, api.ErrOver},
		{of(1, most/2), 0, 2, of(1, most), api.OK},
		{of(1, most/2+1), 0, 2, nil, api.ErrOver},
		{of(1, most/2+1), 1, 2, of(1, (most+2)-(most+2)/100), api.OK},
		{of(1, most/1000), 0, 1000, of(1, most/1000*1000), api.OK},
		{of(1, most/1000+1), 0, 1000, nil, api.ErrOver},
		// One more than may be; and so much only as it is rounded up.
		{of(1, most/5+1), 0, 5, nil, api.ErrOver},
		{of(1, 250199979298361), 10, 5, nil, api.ErrOver},
		{of(1, 250199979298360), 10, 5, of(1, most-4), api.OK},
		// One of them is enough, wherever it stands.
		{of(1, 1, 2, most), 0, 2, nil, api.ErrOver},
		{of(1, most, 2, 1), 0, 2, nil, api.ErrOver},
		{of(1, 1, 2, most, 3, 1), 0, 2, nil, api.ErrOver},
		{of(1, most, 2, most, 3, most), 0, 1, of(1, most, 2, most, 3, most), api.OK},
		// ErrArg is named first.
		{of(1, most), -1, 2, nil, api.ErrArg},
		{of(1, most), 11, 2, nil, api.ErrArg},
		{of(1, most), 0, 1001, nil, api.ErrArg},
		{of(1, 1), 0, 0, nil, api.ErrArg},
		{of(1, 1), 0, -1, nil, api.ErrArg},
		{of(1, 1), math.MaxInt, 1, nil, api.ErrArg},
		{of(1, 1), least, 1, nil, api.ErrArg},
		{of(1, 1), 0, math.MaxInt, nil, api.ErrArg},
		{of(1, 1), 0, least, nil, api.ErrArg},
		{of(1, most, 2, 0), 0, 2, nil, api.ErrArg},
		{of(1, most, 5, 1), 0, 2, nil, api.ErrArg},
	} {
		b := with(func(b *api.Blue) { b.Needs = x.needs })
		l, e := recipe.Needs(b, x.level, x.runs)
		same(t, b, []int{x.level, x.runs}, l, e, x.want, x.e)
	}
}

// Re2: as many runs may be needed as may be in all, more than a copy has: Most does not bound them here.
func TestRe2MoreThanMost(t *testing.T) {
	b := with(func(b *api.Blue) { b.Most = 1 })
	l, e := recipe.Needs(b, 0, 1000)
	same(t, b, []int{0, 1000}, l, e, of(1, 10000, 2, 1000), api.OK)
	n, e := recipe.Time(b, 0, 1000)
	told(t, "Time", b, []int{0, 1000}, n, e, 60000, api.OK)
	s, e := recipe.Makes(b, 1000)
	if s != (api.Stack{Type: 5, Qty: 4000}) || e != api.OK {
		t.Errorf("Makes: %v, %d", s, e)
	}
	n, e = recipe.Copy(b, 1, 2)
	told(t, "Copy", b, []int{1, 2}, n, e, 0, api.ErrArg)
}

// Re2: Makes, in words that are written out.
func TestRe2MakesWritten(t *testing.T) {
	for _, x := range []struct{ per, runs, n int }{
		{1, 1, 1}, {1, 1000, 1000}, {4, 3, 12}, {span, 1, span}, {span, 1000, span * 1000}, {span - 1, 999, (span - 1) * 999},
	} {
		b := with(func(b *api.Blue) { b.Per = x.per })
		if s, e := recipe.Makes(b, x.runs); s != (api.Stack{Type: 5, Qty: x.n}) || e != api.OK {
			t.Errorf("Makes of %v, %d: %v, %d", b, x.runs, s, e)
		}
	}
	for _, n := range []int{least, -1, 0, 1001, math.MaxInt} {
		if s, e := recipe.Makes(plain(), n); s != (api.Stack{}) || e != api.ErrArg {
			t.Errorf("Makes of %d: %v, %d", n, s, e)
		}
	}
}

// Re2: Time, in words that are written out.
func TestRe2TimeWritten(t *testing.T) {
	for _, x := range []struct {
		time, level, runs, n int
		e                    api.Errno
	}{
		{60, 0, 1, 60, api.OK},
		{60, 0, 1000, 60000, api.OK},
		{60, 1, 1, 59, api.OK}, // 58.8
		{60, 1, 5, 294, api.OK},
		{60, 1, 6, 353, api.OK}, // 352.8
		{60, 10, 1, 48, api.OK},
		{60, 5, 1, 54, api.OK},
		{1, 10, 1, 1, api.OK},
		{1, 10, 5, 4, api.OK},
		{1, 10, 6, 5, api.OK}, // 4.8; not so many as runs
		{1, 10, 1000, 800, api.OK},
		{span, 0, 1, span, api.OK},
		{span, 0, 1000, span * 1000, api.OK},
		{span, 10, 1000, span * 800, api.OK},
		{span - 1, 7, 1, 901775, api.OK}, // 901774.5
		{60, -1, 1, 0, api.ErrArg},
		{60, 11, 1, 0, api.ErrArg},
		{60, 51, 1, 0, api.ErrArg},
		{60, 0, 0, 0, api.ErrArg},
		{60, 0, 1001, 0, api.ErrArg},
		{60, least, 1, 0, api.ErrArg},
		{60, math.MaxInt, 1, 0, api.ErrArg},
		{60, 0, least, 0, api.ErrArg},
		{60, 0, math.MaxInt, 0, api.ErrArg},
		{0, 0, 1, 0, api.ErrArg},
		{span + 1, 0, 1, 0, api.ErrArg},
	} {
		b := with(func(b *api.Blue) { b.Time = x.time })
		n, e := recipe.Time(b, x.level, x.runs)
		told(t, "Time", b, []int{x.level, x.runs}, n, e, x.n, x.e)
	}
}

// Re2: Study, in words that are written out.
func TestRe2StudyWritten(t *testing.T) {
	for _, x := range []struct {
		study, level, steps, n int
		e                      api.Errno
	}{
		{100, 0, 1, 100, api.OK},
		{100, 0, 2, 300, api.OK},
		{100, 0, 10, 5500, api.OK},
		{100, 1, 1, 200, api.OK},
		{100, 4, 3, 1800, api.OK},
		{100, 8, 2, 1900, api.OK},
		{100, 9, 1, 1000, api.OK},
		{100, 5, 5, 4000, api.OK},
		{0, 0, 10, 0, api.OK},
		{span, 0, 10, span * 55, api.OK},
		{span, 9, 1, span * 10, api.OK},
		{100, 0, 0, 0, api.ErrArg},
		{100, 0, -1, 0, api.ErrArg},
		{100, 5, -1, 0, api.ErrArg},
		{100, 0, 11, 0, api.ErrArg},
		{100, 8, 3, 0, api.ErrArg},
		{100, 9, 2, 0, api.ErrArg},
		{100, 10, 1, 0, api.ErrArg},
		{100, 10, 0, 0, api.ErrArg},
		{100, 11, 1, 0, api.ErrArg},
		{100, 11, -1, 0, api.ErrArg},
		{100, -1, 1, 0, api.ErrArg},
		{100, -1, 2, 0, api.ErrArg},
		{100, -1, 11, 0, api.ErrArg},
		{100, 1, math.MaxInt, 0, api.ErrArg},
		{100, 10, math.MaxInt, 0, api.ErrArg},
		{100, math.MaxInt, 1, 0, api.ErrArg},
		{100, math.MaxInt, math.MaxInt, 0, api.ErrArg},
		{100, least, math.MaxInt, 0, api.ErrArg},
		{100, least, least, 0, api.ErrArg},
		{100, 1, least, 0, api.ErrArg},
		{-1, 0, 1, 0, api.ErrArg},
		{span + 1, 0, 1, 0, api.ErrArg},
	} {
		b := with(func(b *api.Blue) { b.Study = x.study })
		n, e := recipe.Study(b, x.level, x.steps)
		told(t, "Study", b, []int{x.level, x.steps}, n, e, x.n, x.e)
	}
}

// Re2: Copy, in words that are written out.
func TestRe2CopyWritten(t *testing.T) {
	for _, x := range []struct {
		copy, most, copies, runs, n int
		e                           api.Errno
	}{
		{7, 20, 1, 1, 7, api.OK},
		{7, 20, 10, 20, 1400, api.OK},
		{7, 20, 2, 3, 42, api.OK},
		{7, 1, 3, 1, 21, api.OK},
		{0, 20, 10, 20, 0, api.OK},
		{span, 1000, 10, 1000, span * 10000, api.OK},
		{7, 20, 1, 21, 0, api.ErrArg},
		{7, 1, 1, 2, 0, api.ErrArg},
		{7, 1000, 1, 1001, 0, api.ErrArg},
		{7, 20, 1, 0, 0, api.ErrArg},
		{7, 20, 1, -1, 0, api.ErrArg},
		{7, 20, 0, 1, 0, api.ErrArg},
		{7, 20, -1, 1, 0, api.ErrArg},
		{7, 20, -1, -1, 0, api.ErrArg},
		{7, 20, 11, 1, 0, api.ErrArg},
		{0, 20, 11, 1, 0, api.ErrArg},
		{7, 20, 11, 21, 0, api.ErrArg},
		{7, 20, least, 1, 0, api.ErrArg},
		{7, 20, math.MaxInt, 1, 0, api.ErrArg},
		{7, 20, 1, least, 0, api.ErrArg},
		{7, 20, 1, math.MaxInt, 0, api.ErrArg},
		{-1, 20, 1, 1, 0, api.ErrArg},
		{span + 1, 20, 1, 1, 0, api.ErrArg},
		{7, 0, 1, 1, 0, api.ErrArg},
		{7, 1001, 1, 1, 0, api.ErrArg},
	} {
		b := with(func(b *api.Blue) { b.Copy, b.Most = x.copy, x.most })
		n, e := recipe.Copy(b, x.copies, x.runs)
		told(t, "Copy", b, []int{x.copies, x.runs}, n, e, x.n, x.e)
	}
}

// Re2: Runs, in words that are written out; they may be more than there may be of a job.
func TestRe2RunsWritten(t *testing.T) {
	for _, x := range []struct {
		per, n, runs int
		e            api.Errno
	}{
		{5, 0, 0, api.OK},
		{5, 1, 1, api.OK},
		{5, 4, 1, api.OK},
		{5, 5, 1, api.OK},
		{5, 6, 2, api.OK},
		{5, 5005, 1001, api.OK},
		{1, 0, 0, api.OK},
		{1, most, most, api.OK},
		{2, most - 1, most / 2, api.OK},
		{3, most, most/3 + 1, api.OK},
		{span, 1, 1, api.OK},
		{span, span, 1, api.OK},
		{span, span + 1, 2, api.OK},
		{span, most, most / span, api.OK},
		{span, most - 1, most / span, api.OK},
		{5, -1, 0, api.ErrArg},
		{5, least, 0, api.ErrArg},
		{5, most + 1, 0, api.ErrArg},
		{5, math.MaxInt, 0, api.ErrArg},
		{0, 1, 0, api.ErrArg},
		{0, 0, 0, api.ErrArg},
		{-1, 1, 0, api.ErrArg},
		{span + 1, 1, 0, api.ErrArg},
	} {
		b := with(func(b *api.Blue) { b.Per = x.per })
		n, e := recipe.Runs(b, x.n)
		told(t, "Runs", b, []int{x.n}, n, e, x.runs, x.e)
	}
}

// Re2: all levels, and all runs, of some blueprints; against another hand.
func TestRe2All(t *testing.T) {
	for _, b := range blues() {
		for me := -1; me <= 11; me++ {
			for n := -1; n <= 1001; n++ {
				l, e := recipe.Needs(b, me, n)
				want, err := needs(b, me, n)
				same(t, b, []int{me, n}, l, e, want, err)
				got, e := recipe.Time(b, me, n)
				all, err := time(b, me, n)
				told(t, "Time", b, []int{me, n}, got, e, all, err)
			}
		}
	}
}

// Re2: blueprints and numbers by chance, against another hand.
func TestRe2Chance(t *testing.T) {
	r := chance()
	for range 20000 {
		b := chosen(r)
		asked(t, b, r.IntN(12), 1+r.IntN(1+r.IntN(1000)))
		asked(t, b, r.IntN(10), 1+r.IntN(10))
		n := r.IntN(1 << r.IntN(51))
		got, e := recipe.Runs(b, n)
		want, err := until(b, n)
		told(t, "Runs", b, []int{n}, got, e, want, err)
	}
}

// small is a blueprint by chance, of which no runs need too much.
func small(r *rand.Rand) api.Blue {
	b := chosen(r)
	for k := range b.Needs {
		b.Needs[k].Qty = 1 + r.IntN(1<<r.IntN(30))
	}
	return b
}

// got are what runs need, and how long they take, at a level; no error is to come.
func got(t *testing.T, b api.Blue, level, runs int) ([]api.Stack, int) {
	t.Helper()
	l, e := recipe.Needs(b, level, runs)
	n, err := recipe.Time(b, level, runs)
	if e != api.OK || err != api.OK || len(l) != len(b.Needs) {
		t.Fatalf("%v, %d, %d: %v, %d, %d, %d", b, level, runs, l, e, n, err)
	}
	return l, n
}

// Re3: more runs need no less, and no more than each alone together; each run needs one of all at least.
func TestRe3Runs(t *testing.T) {
	r := chance()
	for range 5000 {
		b, level := small(r), r.IntN(11)
		n := 1 + r.IntN(999)
		m := 1 + r.IntN(1000-n)
		first, _ := got(t, b, level, n)
		second, _ := got(t, b, level, m)
		both, _ := got(t, b, level, n+m)
		for k, s := range both {
			one, other := first[k].Qty, second[k].Qty
			if s.Qty < one || s.Qty < other || s.Qty > one+other || s.Qty < n+m || s.Type != b.Needs[k].Type {
				t.Errorf("%v at %d, for %d and %d runs: %v, %v, both %v", b, level, n, m, first, second, both)
			}
		}
	}
}

// Re3: all small runs of small numbers, together and alone.
func TestRe3SmallRuns(t *testing.T) {
	for qty := 1; qty <= 12; qty++ {
		b := plain(1, qty)
		for level := range 11 {
			once, _ := got(t, b, level, 1)
			before := 0
			for n := 1; n <= 200; n++ {
				l, _ := got(t, b, level, n)
				if k := l[0].Qty; k < n || k < before || k > before+once[0].Qty || k > n*qty {
					t.Errorf("%d of a type at %d, for %d runs: %d, one run less: %d", qty, level, n, k, before)
				}
				before = l[0].Qty
			}
		}
	}
}

// Re3: higher levels need no more, and take no longer.
func TestRe3Levels(t *testing.T) {
	r := chance()
	for range 3000 {
		b, runs := small(r), 1+r.IntN(1000)
		last, long := got(t, b, 0, runs)
		for level := 1; level <= 10; level++ {
			l, n := got(t, b, level, runs)
			for k, s := range l {
				if s.Qty > last[k].Qty || s.Qty < runs {
					t.Errorf("%v at %d, for %d runs: %v, a level less: %v", b, level, runs, l, last)
				}
			}
			if n > long || n < 1 {
				t.Errorf("%v at %d, for %d runs: %d, a level less: %d", b, level, runs, n, long)
			}
			last, long = l, n
		}
	}
}

// Re3: where too much is needed at a level, it is at each lower one, and of more runs.
func TestRe3Over(t *testing.T) {
	for _, qty := range []int{most, most / 2, most/2 + 1, most / 999, most / 900, most/1000 + 1} {
		b := plain(1, qty)
		for level := 10; level >= 1; level-- {
			for n := 1; n <= 999; n++ {
				_, e := recipe.Needs(b, level, n)
				_, lower := recipe.Needs(b, level-1, n)
				_, more := recipe.Needs(b, level, n+1)
				if e == api.ErrOver && (lower != api.ErrOver || more != api.ErrOver) {
					t.Fatalf("%d of a type at %d, for %d runs: too much; but %d, %d", qty, level, n, lower, more)
				}
			}
		}
	}
}

// Re3: so many runs make so many at least, and one run less makes fewer.
func TestRunsAreEnough(t *testing.T) {
	r := chance()
	for range 5000 {
		b := chosen(r)
		n := r.IntN(1 << r.IntN(51))
		runs, e := recipe.Runs(b, n)
		if e != api.OK || runs*b.Per < n || runs > 0 && (runs-1)*b.Per >= n {
			t.Errorf("%d of %v: %d runs, %d", n, b, runs, e)
		}
	}
}

// R3: a blueprint's needs are not changed, nor what lies behind their end, and that is not read.
func TestNeedsAreLeft(t *testing.T) {
	wide := of(1, 10, 2, 1, 3, 3, 5, 1, 0, 1, 7, -1, 8, most+1)
	ahead := slices.Clone(wide)
	for long := range len(wide) + 1 {
		b := with(func(b *api.Blue) { b.Needs = wide[:long] })
		narrow := with(func(b *api.Blue) { b.Needs = ahead[:long:long] })
		checked(t, b, 32, blue(narrow, 32))
		asked(t, b, 5, 3)
		asked(t, b, 1, 1)
		if !slices.Equal(wide, ahead) {
			t.Fatalf("behind the calls there is %v", wide)
		}
		if !reflect.DeepEqual(b.Needs, narrow.Needs) {
			t.Fatalf("behind the calls the needs are %v", b.Needs)
		}
	}
}

// R3, R4: what is needed is new memory, and asked again it is the same.
func TestNeedsAreNew(t *testing.T) {
	b := plain(1, 10, 2, 1)
	first, e := recipe.Needs(b, 0, 1)
	same(t, b, []int{0, 1}, first, e, of(1, 10, 2, 1), api.OK)
	second, e := recipe.Needs(b, 0, 1)
	same(t, b, []int{0, 1}, second, e, first, api.OK)
	for k := range first {
		first[k] = api.Stack{Type: 9, Qty: 9}
	}
	_ = append(first, api.Stack{Type: 8, Qty: 8})
	if !slices.Equal(b.Needs, of(1, 10, 2, 1)) || !slices.Equal(second, of(1, 10, 2, 1)) {
		t.Errorf("what is needed is shared: %v, %v", b.Needs, second)
	}
	third, e := recipe.Needs(b, 0, 1)
	same(t, b, []int{0, 1}, third, e, of(1, 10, 2, 1), api.OK)
}
