package draft_test

import (
	"bottomry/api"
	"bottomry/draft"
	"cmp"
	"math"
	"math/rand/v2"
	"reflect"
	"slices"
	"testing"
)

const (
	original = api.Original
	last     = api.MaxTime
	least    = math.MinInt
	most     = math.MaxInt
)

// chance are numbers that are the same at each run.
func chance() *rand.Rand { return rand.New(rand.NewPCG(17, 31)) }

// edges are numbers at the edges of all that is looked at, good ones and wrong ones.
var edges = []int{
	least, least + 1, least + 11, -1 << 32, -last, -1001, -1000, -11, -2, -1, 0, 1, 2, 3, 4, 5, 6, 7, 8, 9, 10, 11, 16, 17, 63, 64, 65, 999, 1000, 1001, 1 << 32, 1<<32 + 1, last - 1, last, last + 1, 1 << 62, most - 11, most - 10, most - 1, most,
}

// field is a number of a draft, and from what to what it may be.
type field struct {
	name        string
	at          func(d *api.Draft) *int
	least, most int
}

// fields are those of a draft, but its number.
var fields = []field{
	{"Owner", func(d *api.Draft) *int { return &d.Owner }, 0, 1 << 40},
	{"Div", func(d *api.Draft) *int { return &d.Div }, 0, 4},
	{"Place", func(d *api.Draft) *int { return &d.Place }, 1, 8},
	{"Blue", func(d *api.Draft) *int { return &d.Blue }, 1, 16},
	{"Me", func(d *api.Draft) *int { return &d.Me }, 0, 10},
	{"Te", func(d *api.Draft) *int { return &d.Te }, 0, 10},
	{"Runs", func(d *api.Draft) *int { return &d.Runs }, -1, 1000},
	{"Busy", func(d *api.Draft) *int { return &d.Busy }, 0, 1 << 40},
}

// one is an original that may be.
func one(id int) api.Draft {
	return api.Draft{Id: id, Owner: 7, Div: 1, Place: 2, Blue: 3, Me: 4, Te: 5, Runs: original}
}

// with is that draft as it is when something was done to it.
func with(id int, do func(d *api.Draft)) api.Draft {
	d := one(id)
	do(&d)
	return d
}

// state is that draft with runs, used by a job (0: by none).
func state(id, runs, job int) api.Draft {
	return with(id, func(d *api.Draft) { d.Runs, d.Busy = runs, job })
}

// levels is that draft with levels.
func levels(id, me, te int) api.Draft {
	return with(id, func(d *api.Draft) { d.Me, d.Te = me, te })
}

// many are so many copies, from a number on, no two of which have the same runs.
func many(first, n int) []api.Draft {
	var l []api.Draft
	for k := range n {
		l = append(l, state(first+k, k, 0))
	}
	return l
}

// loaded are drafts that there were.
func loaded(t *testing.T, next int, l ...api.Draft) *draft.Drafts {
	t.Helper()
	s, e := draft.Load(l, next)
	if e != api.OK || s == nil {
		t.Fatalf("Load(%v, %d): %v, %d", l, next, s, e)
	}
	return s
}

// has looks at all that drafts tell: these are to be all, by their numbers.
func has(t *testing.T, s *draft.Drafts, next int, want ...api.Draft) {
	t.Helper()
	if l := s.List(); !slices.Equal(l, want) {
		t.Errorf("List: %v, want %v", l, want)
	}
	if n := s.Next(); n != next {
		t.Errorf("Next: %d, want %d", n, next)
	}
	for _, d := range want {
		if got, e := s.Get(d.Id); got != d || e != api.OK {
			t.Errorf("Get(%d): %v, %d, want %v", d.Id, got, e, d)
		}
	}
	for _, id := range edges {
		if slices.ContainsFunc(want, func(d api.Draft) bool { return d.Id == id }) {
			continue
		}
		if got, e := s.Get(id); got != (api.Draft{}) || e != api.ErrNone {
			t.Errorf("Get(%d): %v, %d, want ErrNone", id, got, e)
		}
	}
}

// refusesLoad looks at a Load that is to be refused.
func refusesLoad(t *testing.T, next int, l ...api.Draft) {
	t.Helper()
	if s, e := draft.Load(l, next); s != nil || e != api.ErrArg {
		t.Errorf("Load(%v, %d): %v, %d, want ErrArg", l, next, s, e)
	}
}

// adds looks at an Add, and its answer.
func adds(t *testing.T, s *draft.Drafts, d api.Draft, want int, wantErr api.Errno) {
	t.Helper()
	if id, e := s.Add(d); id != want || e != wantErr {
		t.Errorf("Add(%v): %d, %d, want %d, %d", d, id, e, want, wantErr)
	}
}

// copies looks at a Copies, and its answer.
func copies(t *testing.T, s *draft.Drafts, id, n, runs int, wantErr api.Errno, want ...int) {
	t.Helper()
	if l, e := s.Copies(id, n, runs); !slices.Equal(l, want) || e != wantErr {
		t.Errorf("Copies(%d, %d, %d): %v, %d, want %v, %d", id, n, runs, l, e, want, wantErr)
	}
}

// is looks at what a call answered.
func is(t *testing.T, what string, got, want api.Errno) {
	t.Helper()
	if got != want {
		t.Errorf("%s: %d, want %d", what, got, want)
	}
}

// orders hands on the numbers below n in each order that there is.
func orders(n int, do func(order []int)) {
	var next func(order []int)
	next = func(order []int) {
		if len(order) == n {
			do(slices.Clone(order))
		}
		for i := range n {
			if !slices.Contains(order, i) {
				next(append(slices.Clone(order), i))
			}
		}
	}
	next(nil)
}

// Dr1: zero drafts have none, their next number is 1, and they may be used.
func TestDr1Zero(t *testing.T) {
	for _, s := range []*draft.Drafts{{}, new(draft.Drafts)} {
		has(t, s, 1)
		has(t, s.Clone(), 1)
		is(t, "Use", s.Use(1, 1, 1), api.ErrNone)
		is(t, "Free", s.Free(0, 1, 1), api.ErrNone)
		is(t, "Learn", s.Learn(1, 1, 1), api.ErrNone)
		is(t, "Give", s.Give(1, 1, 1), api.ErrNone)
		copies(t, s, 1, 1, 1, api.ErrNone)
		adds(t, s, one(0), 1, api.OK)
		has(t, s, 2, one(1))
	}
	for _, l := range [][]api.Draft{nil, {}} {
		has(t, loaded(t, 1, l...), 1)
		has(t, loaded(t, 9, l...), 9)
		has(t, loaded(t, last, l...), last)
	}
}

// Dr1: drafts that are loaded are there, by their numbers, in whatever order they are handed in.
func TestDr1Load(t *testing.T) {
	l := []api.Draft{one(2), state(3, 0, 0), state(7, 1000, last), levels(64, 10, 0), state(last-2, original, 1)}
	orders(len(l), func(order []int) {
		var in []api.Draft
		for _, k := range order {
			in = append(in, l[k])
		}
		s := loaded(t, last-1, in...)
		has(t, s, last-1, l...)
		adds(t, s, one(3), last-1, api.OK)
		has(t, s, last, append(slices.Clone(l), one(last-1))...)
	})
}

// Dr1: each number of a draft may be from its least to its most, and no other one.
func TestDr1LoadEdges(t *testing.T) {
	for _, f := range fields {
		for _, n := range append([]int{f.least - 1, f.least, f.most, f.most + 1}, edges...) {
			d := with(5, func(d *api.Draft) { *f.at(d) = n })
			if n < f.least || n > f.most {
				refusesLoad(t, 9, d)
				refusesLoad(t, 9, one(1), d, one(3))
				continue
			}
			has(t, loaded(t, 9, d), 9, d)
			has(t, loaded(t, 9, one(6), d), 9, d, one(6))
		}
	}
}

// Dr1: all least, and all greatest, numbers at once may be.
func TestDr1LoadCorners(t *testing.T) {
	low := api.Draft{Id: 1, Place: 1, Blue: 1, Runs: original}
	high := api.Draft{Id: last - 1, Owner: last, Div: 4, Place: 8, Blue: 16, Me: 10, Te: 10, Runs: 1000, Busy: last}
	has(t, loaded(t, last, high, low), last, low, high)
	refusesLoad(t, last, api.Draft{Id: 1})
}

// Dr1: the next number is 1 to MaxTime, and each draft's number is below it.
func TestDr1LoadNumbers(t *testing.T) {
	for _, next := range edges {
		if next < 1 || next > 1<<40 {
			refusesLoad(t, next)
			refusesLoad(t, next, one(1))
			continue
		}
		has(t, loaded(t, next), next)
		for _, id := range append([]int{next - 1, next, next + 1}, edges...) {
			if id < 1 || id > next-1 {
				refusesLoad(t, next, one(id))
				continue
			}
			has(t, loaded(t, next, one(id)), next, one(id))
		}
	}
}

// Dr1: no two drafts have one number, wherever they stand, and whether they are the same or not.
func TestDr1LoadTwice(t *testing.T) {
	for _, d := range []api.Draft{one(2), state(2, 5, 0)} {
		refusesLoad(t, 9, one(2), d)
		refusesLoad(t, 9, d, one(2))
		refusesLoad(t, 9, one(1), one(2), d, one(3))
		refusesLoad(t, 9, one(2), one(1), one(3), d)
		refusesLoad(t, 9, d, one(3), one(1), one(2))
	}
	has(t, loaded(t, 9, one(1), one(2), one(3)), 9, one(1), one(2), one(3))
}

// Dr1: MaxDrafts may be loaded, and no more.
func TestDr1LoadMany(t *testing.T) {
	has(t, loaded(t, 100, many(1, 63)...), 100, many(1, 63)...)
	has(t, loaded(t, 65, many(1, 64)...), 65, many(1, 64)...)
	has(t, loaded(t, 1001, many(937, 64)...), 1001, many(937, 64)...)
	refusesLoad(t, 100, many(1, 65)...)
	refusesLoad(t, 1000, many(1, 999)...)
	refusesLoad(t, 100, append(many(1, 64), one(64))...)
}

// Dr1: what is added is there under the next number, whatever its own number is.
func TestDr1Add(t *testing.T) {
	s := new(draft.Drafts)
	var want []api.Draft
	for k, id := range edges {
		adds(t, s, state(id, k, 0), k+1, api.OK)
		want = append(want, state(k+1, k, 0))
		has(t, s, k+2, want...)
	}
	s = loaded(t, 50, one(3), one(40))
	adds(t, s, levels(3, 0, 10), 50, api.OK)
	adds(t, s, levels(3, 10, 0), 51, api.OK)
	has(t, s, 52, one(3), one(40), levels(50, 0, 10), levels(51, 10, 0))
}

// Dr1: what may not be, and what is used, is not added.
func TestDr1AddEdges(t *testing.T) {
	for _, f := range fields {
		for _, n := range append([]int{f.least - 1, f.least, f.most, f.most + 1}, edges...) {
			s := loaded(t, 8, one(6))
			d := with(5, func(d *api.Draft) { *f.at(d) = n })
			if n < f.least || n > f.most || f.name == "Busy" && n != 0 {
				adds(t, s, d, 0, api.ErrArg)
				has(t, s, 8, one(6))
				continue
			}
			adds(t, s, d, 8, api.OK)
			d.Id = 8
			has(t, s, 9, one(6), d)
		}
	}
	adds(t, new(draft.Drafts), api.Draft{}, 0, api.ErrArg)
}

// Dr1: there are at most MaxDrafts; what may not be is told ahead of that.
func TestDr1AddFull(t *testing.T) {
	s := loaded(t, 200, many(1, 62)...)
	adds(t, s, state(0, 62, 0), 200, api.OK)
	adds(t, s, state(0, 63, 0), 201, api.OK)
	want := append(many(1, 62), state(200, 62, 0), state(201, 63, 0))
	for range 3 {
		adds(t, s, one(1), 0, api.ErrFull)
		adds(t, s, state(1, 5, 1), 0, api.ErrArg)
		adds(t, s, state(1, -2, 0), 0, api.ErrArg)
		has(t, s, 202, want...)
	}
}

// Dr1: the number MaxTime is never given.
func TestDr1AddLast(t *testing.T) {
	s := loaded(t, last-2, one(1))
	adds(t, s, one(1), last-2, api.OK)
	adds(t, s, one(1), last-1, api.OK)
	for range 3 {
		adds(t, s, one(1), 0, api.ErrFull)
		adds(t, s, state(1, 5, 1), 0, api.ErrArg)
		has(t, s, last, one(1), one(last-2), one(last-1))
	}
	s = loaded(t, last)
	adds(t, s, one(1), 0, api.ErrFull)
	has(t, s, last)
}

// Dr1: a clone has the same, and goes its own way, and so does what was cloned.
func TestDr1Clone(t *testing.T) {
	s := loaded(t, 9, one(2), state(4, 5, 0), state(6, 7, 3))
	c := s.Clone()
	has(t, c, 9, one(2), state(4, 5, 0), state(6, 7, 3))
	is(t, "Use", s.Use(4, 8, 2), api.OK)
	adds(t, s, one(0), 9, api.OK)
	has(t, c, 9, one(2), state(4, 5, 0), state(6, 7, 3))
	is(t, "Free", c.Free(6, 3, 1), api.OK)
	copies(t, c, 2, 2, 3, api.OK, 9, 10)
	is(t, "Learn", c.Learn(2, 1, 2), api.OK)
	has(t, s, 10, one(2), state(4, 3, 8), state(6, 7, 3), one(9))
	has(t, c, 11, levels(2, 5, 7), state(4, 5, 0), state(6, 8, 0), state(9, 3, 0), state(10, 3, 0))
	d := c.Clone()
	is(t, "Give", d.Give(4, 0, 0), api.OK)
	has(t, c, 11, levels(2, 5, 7), state(4, 5, 0), state(6, 8, 0), state(9, 3, 0), state(10, 3, 0))
	has(t, s, 10, one(2), state(4, 3, 8), state(6, 7, 3), one(9))
}

// Dr1, R1: nil drafts have nothing, and answer ErrArg; a clone of them has none, and may be used.
func TestDr1Nil(t *testing.T) {
	var s *draft.Drafts
	for _, n := range edges {
		if d, e := s.Get(n); d != (api.Draft{}) || e != api.ErrArg {
			t.Error("Get", n, d, e)
		}
		is(t, "Use", s.Use(n, 1, 1), api.ErrArg)
		is(t, "Free", s.Free(n, 1, 1), api.ErrArg)
		is(t, "Learn", s.Learn(n, 1, 1), api.ErrArg)
		is(t, "Give", s.Give(n, 1, 1), api.ErrArg)
		copies(t, s, n, 1, 1, api.ErrArg)
	}
	adds(t, s, one(1), 0, api.ErrArg)
	if l, n := s.List(), s.Next(); len(l) != 0 || n != 0 {
		t.Error(l, n)
	}
	c := s.Clone()
	if c == nil {
		t.Fatal("no clone")
	}
	has(t, c, 1)
	adds(t, c, one(0), 1, api.OK)
	has(t, c, 2, one(1))
	has(t, s.Clone(), 1)
}

// Dr2: a copy has fewer runs when it is used, an original as many as ahead.
func TestDr2Use(t *testing.T) {
	s := loaded(t, 9, one(1), state(2, 5, 0), state(3, 1000, 0), state(4, 0, 0), state(5, 5, 0))
	is(t, "of an original", s.Use(1, 8, 1000), api.OK)
	is(t, "3 of 5", s.Use(2, 9, 3), api.OK)
	is(t, "all", s.Use(3, last, 1000), api.OK)
	is(t, "none of none", s.Use(4, 1, 0), api.OK)
	is(t, "5 of 5", s.Use(5, 9, 5), api.OK)
	has(t, s, 9, state(1, original, 8), state(2, 2, 9), state(3, 0, last), state(4, 0, 1), state(5, 0, 9))
}

// Dr2: Use is refused by the first of its errors.
func TestDr2UseWrong(t *testing.T) {
	l := []api.Draft{one(1), state(2, 5, 0), state(3, original, 4), state(4, 5, 4)}
	s := loaded(t, 9, l...)
	for k, x := range []struct {
		id, job, runs int
		want          api.Errno
	}{
		{5, 1, 1, api.ErrNone}, {0, 0, -1, api.ErrNone}, {9, 1, 1, api.ErrNone}, {-1, 1, 1, api.ErrNone},
		{1, 0, 1, api.ErrArg}, {1, -1, 1, api.ErrArg}, {1, last + 1, 1, api.ErrArg}, {1, 1, -1, api.ErrArg}, {1, 1, 1001, api.ErrArg},
		{1, least, 1, api.ErrArg}, {1, most, 1, api.ErrArg}, {1, 1, least, api.ErrArg}, {2, 1, most, api.ErrArg}, {2, 1, -1, api.ErrArg},
		{3, 0, 1, api.ErrArg}, {4, 1, 1001, api.ErrArg},
		{3, 4, 1, api.ErrBusy}, {3, 5, 0, api.ErrBusy}, {4, 4, 6, api.ErrBusy}, {4, 5, 6, api.ErrBusy},
		{2, 1, 6, api.ErrRuns}, {2, 1, 1000, api.ErrRuns},
	} {
		if got := s.Use(x.id, x.job, x.runs); got != x.want {
			t.Errorf("%d: Use(%d, %d, %d): %d, want %d", k, x.id, x.job, x.runs, got, x.want)
		}
		has(t, s, 9, l...)
	}
}

// Dr2: a copy has its runs again when it is free, an original as many as ahead.
func TestDr2Free(t *testing.T) {
	s := loaded(t, 9, state(1, original, 8), state(2, 2, 9), state(3, 0, last), state(4, 999, 1), state(5, 1000, 9), state(6, 0, 1))
	is(t, "of an original", s.Free(1, 8, 1000), api.OK)
	is(t, "3 to 2", s.Free(2, 9, 3), api.OK)
	is(t, "all", s.Free(3, last, 1000), api.OK)
	is(t, "the last one", s.Free(4, 1, 1), api.OK)
	is(t, "none to all", s.Free(5, 9, 0), api.OK)
	is(t, "none to none", s.Free(6, 1, 0), api.OK)
	has(t, s, 9, one(1), state(2, 5, 0), state(3, 1000, 0), state(4, 1000, 0), state(5, 1000, 0), state(6, 0, 0))
}

// Dr2: Free is refused by the first of its errors.
func TestDr2FreeWrong(t *testing.T) {
	l := []api.Draft{one(1), state(2, 5, 0), state(3, original, 4), state(4, 5, 4), state(5, 1000, last)}
	s := loaded(t, 9, l...)
	for k, x := range []struct {
		id, job, runs int
		want          api.Errno
	}{
		{6, 1, 1, api.ErrNone}, {0, 0, -1, api.ErrNone}, {9, 4, 1, api.ErrNone}, {-1, 4, 1, api.ErrNone},
		{3, 0, 1, api.ErrArg}, {3, -4, 1, api.ErrArg}, {3, last + 1, 1, api.ErrArg}, {3, 4, -1, api.ErrArg}, {3, 4, 1001, api.ErrArg},
		{3, least, 1, api.ErrArg}, {3, most, 1, api.ErrArg}, {4, 4, least, api.ErrArg}, {4, 4, most, api.ErrArg}, {4, 4, -1, api.ErrArg},
		{1, 0, 0, api.ErrArg}, {2, 0, 0, api.ErrArg}, {1, 1, 1001, api.ErrArg},
		{1, 4, 1, api.ErrState}, {2, 4, 1, api.ErrState}, {2, 1, 1000, api.ErrState}, {3, 3, 0, api.ErrState}, {4, 5, 1, api.ErrState}, {4, 1, 1000, api.ErrState}, {5, last - 1, 1, api.ErrState},
		{4, 4, 996, api.ErrRuns}, {4, 4, 1000, api.ErrRuns}, {5, last, 1, api.ErrRuns},
	} {
		if got := s.Free(x.id, x.job, x.runs); got != x.want {
			t.Errorf("%d: Free(%d, %d, %d): %d, want %d", k, x.id, x.job, x.runs, got, x.want)
		}
		has(t, s, 9, l...)
	}
}

// Dr2: levels are raised, also of a copy, and of what is used.
func TestDr2Learn(t *testing.T) {
	s := loaded(t, 9, one(1), state(2, 5, 0), state(3, original, 4), levels(4, 0, 10))
	is(t, "both", s.Learn(1, 2, 3), api.OK)
	is(t, "material", s.Learn(2, 6, 0), api.OK)
	is(t, "time", s.Learn(3, 0, 5), api.OK)
	is(t, "all", s.Learn(4, 10, 0), api.OK)
	has(t, s, 9,
		levels(1, 6, 8),
		with(2, func(d *api.Draft) { d.Me, d.Runs = 10, 5 }),
		with(3, func(d *api.Draft) { d.Te, d.Busy = 10, 4 }),
		levels(4, 10, 10))
	is(t, "nothing", s.Learn(4, 0, 0), api.OK)
	is(t, "nothing", s.Learn(1, 0, 0), api.OK)
	is(t, "one more", s.Learn(1, 1, 1), api.OK)
	if d, e := s.Get(1); d != levels(1, 7, 9) || e != api.OK {
		t.Error(d, e)
	}
}

// Dr2: Learn is refused by the first of its errors; no level goes beyond MaxLevel, nor round.
func TestDr2LearnWrong(t *testing.T) {
	l := []api.Draft{one(1), levels(2, 10, 0), levels(3, 0, 10)}
	s := loaded(t, 9, l...)
	for k, x := range []struct {
		id, me, te int
		want       api.Errno
	}{
		{4, 1, 1, api.ErrNone}, {0, -1, 0, api.ErrNone}, {9, 11, 0, api.ErrNone}, {-1, 0, 0, api.ErrNone},
		{1, -1, 0, api.ErrArg}, {1, 0, -1, api.ErrArg}, {1, -1, -1, api.ErrArg}, {1, -1, 1, api.ErrArg}, {1, 11, -1, api.ErrArg}, {1, -1, most, api.ErrArg}, {1, least, 0, api.ErrArg}, {1, 0, least, api.ErrArg},
		{1, 7, 0, api.ErrRuns}, {1, 0, 6, api.ErrRuns}, {1, 7, 6, api.ErrRuns}, {1, 6, 6, api.ErrRuns}, {1, 7, 5, api.ErrRuns},
		{1, most, 0, api.ErrRuns}, {1, 0, most, api.ErrRuns}, {1, most - 3, most - 4, api.ErrRuns}, {1, 1 << 32, 0, api.ErrRuns}, {1, 0, 1 << 32, api.ErrRuns},
		{2, 1, 0, api.ErrRuns}, {2, 1, 1, api.ErrRuns}, {3, 0, 1, api.ErrRuns}, {3, 1, 1, api.ErrRuns}, {2, most, 0, api.ErrRuns}, {3, 0, most, api.ErrRuns},
	} {
		if got := s.Learn(x.id, x.me, x.te); got != x.want {
			t.Errorf("%d: Learn(%d, %d, %d): %d, want %d", k, x.id, x.me, x.te, got, x.want)
		}
		has(t, s, 9, l...)
	}
}

// Dr2: copies are as their original, but with runs of their own, and not used.
func TestDr2Copies(t *testing.T) {
	used := state(3, original, 4)
	s := loaded(t, 9, used, levels(6, 10, 0))
	copies(t, s, 3, 1, 1000, api.OK, 9)
	copies(t, s, 6, 3, 1, api.OK, 10, 11, 12)
	of := func(id int) api.Draft {
		return with(id, func(d *api.Draft) { d.Me, d.Te, d.Runs = 10, 0, 1 })
	}
	want := []api.Draft{used, levels(6, 10, 0), state(9, 1000, 0), of(10), of(11), of(12)}
	has(t, s, 13, want...)
	is(t, "Give", s.Give(6, 0, 4), api.OK)
	copies(t, s, 6, 10, 7, api.OK, 13, 14, 15, 16, 17, 18, 19, 20, 21, 22)
	given := func(id, runs int) api.Draft {
		return with(id, func(d *api.Draft) { d.Owner, d.Div, d.Me, d.Te, d.Runs = 0, 4, 10, 0, runs })
	}
	want[1] = given(6, original)
	for id := 13; id <= 22; id++ {
		want = append(want, given(id, 7))
	}
	has(t, s, 23, want...)
	is(t, "Use of a copy", s.Use(11, 3, 1), api.OK)
	want[4].Runs, want[4].Busy = 0, 3
	has(t, s, 23, want...)
}

// Dr2: Copies is refused by the first of its errors.
func TestDr2CopiesWrong(t *testing.T) {
	l := append(many(11, 54), state(90, original, 4), one(91))
	s := loaded(t, 100, l...)
	for _, x := range []struct {
		id, n, runs int
		want        api.Errno
	}{
		{1, 1, 1, api.ErrNone}, {0, 0, 0, api.ErrNone}, {100, 1, 1, api.ErrNone}, {-1, 11, 1001, api.ErrNone},
		{91, 0, 1, api.ErrArg}, {91, 11, 1, api.ErrArg}, {91, 1, 0, api.ErrArg}, {91, 1, 1001, api.ErrArg}, {91, -1, 1, api.ErrArg}, {91, 1, -1, api.ErrArg},
		{91, least, 1, api.ErrArg}, {91, most, 1, api.ErrArg}, {91, 1, least, api.ErrArg}, {91, 1, most, api.ErrArg},
		{11, 0, 1, api.ErrArg}, {11, 1, 0, api.ErrArg}, {12, 11, 1, api.ErrArg}, {12, 1, original, api.ErrArg},
		{11, 1, 1, api.ErrState}, {64, 1, 1, api.ErrState}, {12, 9, 1, api.ErrState}, {12, 10, 1000, api.ErrState},
		{91, 9, 1, api.ErrFull}, {91, 10, 1000, api.ErrFull}, {90, 9, 1000, api.ErrFull},
	} {
		copies(t, s, x.id, x.n, x.runs, x.want)
		has(t, s, 100, l...)
	}
	copies(t, s, 90, 8, 3, api.OK, 100, 101, 102, 103, 104, 105, 106, 107)
	copies(t, s, 90, 1, 3, api.ErrFull)
	copies(t, s, 100, 1, 3, api.ErrState)
	copies(t, s, 108, 1, 3, api.ErrNone)
	copies(t, s, 90, 0, 3, api.ErrArg)
}

// Dr2: as Add, Copies gives no number MaxTime: a next number is left.
func TestDr2CopiesLast(t *testing.T) {
	for n := 1; n <= 10; n++ {
		for left := range 13 {
			s := loaded(t, last-left, one(1))
			if n > left {
				copies(t, s, 1, n, 5, api.ErrFull)
				has(t, s, last-left, one(1))
				continue
			}
			want, ids := []api.Draft{one(1)}, []int(nil)
			for k := range n {
				want, ids = append(want, state(last-left+k, 5, 0)), append(ids, last-left+k)
			}
			copies(t, s, 1, n, 5, api.OK, ids...)
			has(t, s, last-left+n, want...)
			has(t, loaded(t, s.Next(), s.List()...), s.Next(), want...)
		}
	}
}

// Dr2: what is given has another owner, and division, and is else as it was.
func TestDr2Give(t *testing.T) {
	s := loaded(t, 9, one(1), state(2, 5, 0), state(3, original, 4))
	is(t, "Give", s.Give(1, last, 4), api.OK)
	is(t, "Give", s.Give(2, 0, 0), api.OK)
	want := []api.Draft{
		with(1, func(d *api.Draft) { d.Owner, d.Div = last, 4 }),
		with(2, func(d *api.Draft) { d.Owner, d.Div, d.Runs = 0, 0, 5 }),
		state(3, original, 4),
	}
	has(t, s, 9, want...)
	is(t, "Give again", s.Give(1, last, 4), api.OK)
	has(t, s, 9, want...)
	is(t, "Give back", s.Give(1, 7, 1), api.OK)
	want[0] = one(1)
	has(t, s, 9, want...)
}

// Dr2: Give is refused by the first of its errors.
func TestDr2GiveWrong(t *testing.T) {
	l := []api.Draft{one(1), state(2, 5, 3)}
	s := loaded(t, 9, l...)
	for k, x := range []struct {
		id, owner, div int
		want           api.Errno
	}{
		{3, 1, 1, api.ErrNone}, {0, -1, 0, api.ErrNone}, {9, 1, 1, api.ErrNone}, {-1, 1, 5, api.ErrNone},
		{1, -1, 0, api.ErrArg}, {1, last + 1, 0, api.ErrArg}, {1, 1, -1, api.ErrArg}, {1, 1, 5, api.ErrArg}, {1, least, 0, api.ErrArg}, {1, most, 0, api.ErrArg}, {1, 0, least, api.ErrArg}, {1, 0, most, api.ErrArg},
		{2, -1, 0, api.ErrArg}, {2, 1, 5, api.ErrArg},
		{2, 1, 1, api.ErrBusy}, {2, 7, 1, api.ErrBusy},
	} {
		if got := s.Give(x.id, x.owner, x.div); got != x.want {
			t.Errorf("%d: Give(%d, %d, %d): %d, want %d", k, x.id, x.owner, x.div, got, x.want)
		}
		has(t, s, 9, l...)
	}
}

// other are drafts by another hand: a list that is gone through, in the order in which they came.
type other struct {
	l    []api.Draft
	next int
}

// at is where a draft stands; -1, if it is not there.
func (o *other) at(id int) int {
	return slices.IndexFunc(o.l, func(d api.Draft) bool { return d.Id == id })
}

// list are all, by their numbers.
func (o *other) list() []api.Draft {
	return slices.SortedFunc(slices.Values(o.l), func(a, b api.Draft) int { return cmp.Compare(a.Id, b.Id) })
}

func (o *other) clone() *other { return &other{l: slices.Clone(o.l), next: o.next} }

func (o *other) add(d api.Draft) (int, api.Errno) {
	for _, f := range fields {
		if n := *f.at(&d); n < f.least || n > f.most {
			return 0, api.ErrArg
		}
	}
	if d.Busy > 0 {
		return 0, api.ErrArg
	}
	if len(o.l) >= 64 || o.next >= 1<<40 {
		return 0, api.ErrFull
	}
	d.Id = o.next
	o.l = append(o.l, d)
	o.next++
	return d.Id, api.OK
}

func (o *other) use(id, job, runs int) api.Errno {
	i := o.at(id)
	switch {
	case i < 0:
		return api.ErrNone
	case job <= 0 || job > 1<<40 || runs < 0 || runs > 1000:
		return api.ErrArg
	case o.l[i].Busy != 0:
		return api.ErrBusy
	case o.l[i].Runs == original:
	case o.l[i].Runs < runs:
		return api.ErrRuns
	default:
		o.l[i].Runs = o.l[i].Runs - runs
	}
	o.l[i].Busy = job
	return api.OK
}

func (o *other) free(id, job, runs int) api.Errno {
	i := o.at(id)
	switch {
	case i < 0:
		return api.ErrNone
	case job <= 0 || job > 1<<40 || runs < 0 || runs > 1000:
		return api.ErrArg
	case o.l[i].Busy != job:
		return api.ErrState
	case o.l[i].Runs == original:
	case o.l[i].Runs+runs > 1000:
		return api.ErrRuns
	default:
		o.l[i].Runs = o.l[i].Runs + runs
	}
	o.l[i].Busy = 0
	return api.OK
}

func (o *other) learn(id, me, te int) api.Errno {
	i := o.at(id)
	if i < 0 {
		return api.ErrNone
	}
	if me < 0 || te < 0 {
		return api.ErrArg
	}
	if me > 10 || te > 10 || o.l[i].Me+me > 10 || o.l[i].Te+te > 10 {
		return api.ErrRuns
	}
	o.l[i].Me += me
	o.l[i].Te += te
	return api.OK
}

func (o *other) copies(id, n, runs int) ([]int, api.Errno) {
	i := o.at(id)
	switch {
	case i < 0:
		return nil, api.ErrNone
	case n <= 0 || n > 10 || runs <= 0 || runs > 1000:
		return nil, api.ErrArg
	case o.l[i].Runs >= 0:
		return nil, api.ErrState
	case n > 64-len(o.l) || n > 1<<40-o.next:
		return nil, api.ErrFull
	}
	var ids []int
	for len(ids) < n {
		d := o.l[i]
		d.Runs, d.Busy = runs, 0
		id, _ := o.add(d)
		ids = append(ids, id)
	}
	return ids, api.OK
}

func (o *other) give(id, owner, div int) api.Errno {
	i := o.at(id)
	switch {
	case i < 0:
		return api.ErrNone
	case owner < 0 || owner > 1<<40 || div < 0 || div > 4:
		return api.ErrArg
	case o.l[i].Busy > 0:
		return api.ErrBusy
	}
	o.l[i].Owner, o.l[i].Div = owner, div
	return api.OK
}

// kind is a call that changes a draft, to both.
type kind struct {
	name string
	do   func(s *draft.Drafts, id, a, b int) api.Errno
	by   func(o *other, id, a, b int) api.Errno
}

var kinds = []kind{
	{"Use", (*draft.Drafts).Use, (*other).use},
	{"Free", (*draft.Drafts).Free, (*other).free},
	{"Learn", (*draft.Drafts).Learn, (*other).learn},
	{"Give", (*draft.Drafts).Give, (*other).give},
}

// states are drafts with the number 5, in all states that count.
func states() []api.Draft {
	var l []api.Draft
	for _, runs := range []int{original, 0, 1, 5, 999, 1000} {
		for _, job := range []int{0, 1, 9, last} {
			l = append(l, state(5, runs, job))
		}
	}
	for _, me := range []int{0, 1, 9, 10} {
		for _, te := range []int{0, 1, 9, 10} {
			l = append(l, levels(5, me, te))
		}
	}
	return l
}

// Dr2, Dr3: at all edges, and in all states, a draft is changed as another hand says; what is refused changes nothing.
func TestDr2Edges(t *testing.T) {
	for _, d := range states() {
		for _, c := range kinds {
			for _, id := range []int{5, 6} {
				for _, a := range edges {
					for _, b := range edges {
						s, o := loaded(t, 9, one(2), d), &other{l: []api.Draft{one(2), d}, next: 9}
						got, want := c.do(s, id, a, b), c.by(o, id, a, b)
						if got != want || !slices.Equal(s.List(), o.l) || s.Next() != 9 {
							t.Fatalf("%s(%d, %d, %d) of %v: %d, %v, want %d, %v", c.name, id, a, b, d, got, s.List(), want, o.l)
						}
					}
				}
			}
		}
	}
}

// Dr2, Dr3: of whatever there is, copies are made as another hand says.
func TestDr2CopiesEdges(t *testing.T) {
	for _, d := range []api.Draft{one(5), state(5, original, 9), state(5, 0, 0), state(5, 5, last)} {
		for _, there := range []int{0, 53, 54, 62, 63} {
			for _, next := range []int{100, last - 10, last - 9, last - 1, last} {
				l := append([]api.Draft{d}, many(6, there)...)
				s, o := loaded(t, next, l...), &other{l: l, next: next}
				for _, n := range edges {
					for _, runs := range edges {
						c, p := s.Clone(), o.clone()
						got, e := c.Copies(5, n, runs)
						want, wantErr := p.copies(5, n, runs)
						if !slices.Equal(got, want) || e != wantErr || !slices.Equal(c.List(), p.l) || c.Next() != p.next {
							t.Fatalf("Copies(5, %d, %d) of %v, %d more, next %d: %v, %d, want %v, %d", n, runs, d, there, next, got, e, want, wantErr)
						}
					}
				}
			}
		}
	}
}

// number is one by chance: mostly a small one, else one at the edges.
func number(r *rand.Rand, small int) int {
	if r.IntN(20) == 0 {
		return edges[r.IntN(len(edges))]
	}
	return r.IntN(small)
}

// beginning are drafts by chance, and another hand's.
func beginning(t *testing.T, r *rand.Rand) (*draft.Drafts, *other) {
	t.Helper()
	l := many(1+r.IntN(3), []int{0, 3, 20, 50, 60}[r.IntN(5)])
	for k := range l {
		if r.IntN(3) == 0 {
			l[k].Runs = original
		}
		l[k].Busy = r.IntN(2) * r.IntN(4)
	}
	next := []int{70, 70, 70, last - 3, last - 30}[r.IntN(5)]
	if len(l) == 0 && next == 70 {
		next = 1
	}
	r.Shuffle(len(l), func(i, j int) { l[i], l[j] = l[j], l[i] })
	return loaded(t, next, l...), &other{l: l, next: next}
}

// anyDraft is a draft by chance that mostly may be.
func anyDraft(r *rand.Rand) api.Draft {
	d := api.Draft{Id: number(r, 70)}
	for _, f := range fields {
		*f.at(&d) = min(f.least+number(r, 11), f.most)
		if r.IntN(60) == 0 {
			*f.at(&d) = edges[r.IntN(len(edges))]
		}
	}
	if r.IntN(8) > 0 {
		d.Busy = 0
	}
	return d
}

// call does one call by chance to both: its name, the numbers that were given, and what each answers.
func call(r *rand.Rand, s *draft.Drafts, o *other) (what string, got, want api.Errno, ids, others []int) {
	id, a, b := number(r, 90), number(r, 4), number(r, 6)
	if len(o.l) > 0 && r.IntN(8) > 0 {
		id = o.l[r.IntN(len(o.l))].Id
	}
	switch k := r.IntN(6); k {
	case 0:
		d := anyDraft(r)
		i, got := s.Add(d)
		j, want := o.add(d)
		return "Add", got, want, []int{i}, []int{j}
	case 1:
		ids, got = s.Copies(id, a, b)
		others, want = o.copies(id, a, b)
		return "Copies", got, want, ids, others
	default:
		c := kinds[k-2]
		return c.name, c.do(s, id, a, b), c.by(o, id, a, b), nil, nil
	}
}

// Dr3: calls by chance answer what another hand's drafts answer; what is refused changes nothing; no number is given twice.
func TestDr3Chance(t *testing.T) {
	r := chance()
	told := map[string]map[api.Errno]int{}
	for range 600 {
		s, o := beginning(t, r)
		for range 60 {
			ahead, next := s.List(), s.Next()
			kept, keptToo := s.Clone(), o.clone()
			what, got, want, ids, others := call(r, s, o)
			if got != want || !slices.Equal(ids, others) || !slices.Equal(s.List(), o.list()) || s.Next() != o.next {
				t.Fatalf("%s of %v, next %d: %d, %v, %v, want %d, %v, %v", what, ahead, next, got, ids, s.List(), want, others, o.list())
			}
			if told[what] == nil {
				told[what] = map[api.Errno]int{}
			}
			told[what][got]++
			for k, id := range ids {
				if got == api.OK && id != next+k {
					t.Fatalf("%s gave %v, next was %d", what, ids, next)
				}
			}
			if got != api.OK && (!slices.Equal(s.List(), ahead) || s.Next() != next) {
				t.Fatalf("%s was refused: %v, ahead %v", what, s.List(), ahead)
			}
			if !slices.Equal(kept.List(), ahead) || kept.Next() != next {
				t.Fatalf("%s changed a clone: %v, ahead %v", what, kept.List(), ahead)
			}
			// Now and then the clone goes on.
			if r.IntN(10) == 0 {
				s, o = kept, keptToo
			}
		}
		has(t, s, o.next, o.list()...)
		has(t, loaded(t, o.next, o.l...), o.next, o.list()...)
	}
	for what, l := range map[string][]api.Errno{
		"Add":    {api.OK, api.ErrArg, api.ErrFull},
		"Use":    {api.OK, api.ErrNone, api.ErrArg, api.ErrBusy, api.ErrRuns},
		"Free":   {api.OK, api.ErrNone, api.ErrArg, api.ErrState},
		"Learn":  {api.OK, api.ErrNone, api.ErrArg, api.ErrRuns},
		"Copies": {api.OK, api.ErrNone, api.ErrArg, api.ErrState, api.ErrFull},
		"Give":   {api.OK, api.ErrNone, api.ErrArg, api.ErrBusy},
	} {
		for _, e := range l {
			if told[what][e] < 20 {
				t.Errorf("%s answered %d %d times alone", what, e, told[what][e])
			}
		}
	}
}

// Dr3: no number is given twice, however drafts come to be there, and whatever is refused meanwhile.
func TestDr3Numbers(t *testing.T) {
	s := new(draft.Drafts)
	given := 0
	for k := range 64 {
		adds(t, s, state(k, -2, 0), 0, api.ErrArg)
		copies(t, s, 1, 11, 1, map[bool]api.Errno{true: api.ErrNone, false: api.ErrArg}[k == 0])
		if k%5 == 3 && given+3 <= 64 {
			copies(t, s, 1, 3, 1, api.OK, given+1, given+2, given+3)
			given += 3
		} else if given < 64 {
			adds(t, s, one(1), given+1, api.OK)
			given++
		}
	}
	adds(t, s, one(1), 0, api.ErrFull)
	copies(t, s, 1, 1, 1, api.ErrFull)
	if n, l := s.Next(), s.List(); n != 65 || len(l) != 64 {
		t.Error(n, len(l))
	}
	// A number that was given ahead, of what is not there, is not given again.
	s = loaded(t, 9, one(2))
	adds(t, s, one(1), 9, api.OK)
	copies(t, s, 2, 2, 1, api.OK, 10, 11)
}

// Dr3: what is used and freed again, with as many runs, is as it was.
func TestDr3UseFree(t *testing.T) {
	for _, d := range states() {
		for _, job := range []int{1, 2, 1 << 32, last} {
			for _, runs := range []int{0, 1, 2, 5, 6, 998, 999, 1000} {
				s := loaded(t, 9, d)
				want := api.OK
				if d.Busy != 0 {
					want = api.ErrBusy
				} else if d.Runs != original && d.Runs < runs {
					want = api.ErrRuns
				}
				if e := s.Use(5, job, runs); e != want {
					t.Fatalf("Use(5, %d, %d) of %v: %d, want %d", job, runs, d, e, want)
				}
				if want == api.OK {
					is(t, "Use again", s.Use(5, job, 0), api.ErrBusy)
					is(t, "Free by another one", s.Free(5, job-1, runs), map[bool]api.Errno{true: api.ErrArg, false: api.ErrState}[job == 1])
					is(t, "Free", s.Free(5, job, runs), api.OK)
					is(t, "Free again", s.Free(5, job, 0), api.ErrState)
				}
				has(t, s, 9, d)
			}
		}
	}
}

// Example 1: of a copy of 5 runs, used for 3, there are 2 left; for whom they do not do, they are still there.
func TestExample(t *testing.T) {
	s := new(draft.Drafts)
	adds(t, s, state(0, 5, 0), 1, api.OK)
	is(t, "Use", s.Use(1, 9, 3), api.OK)
	has(t, s, 2, state(1, 2, 9))
	is(t, "Free", s.Free(1, 9, 0), api.OK)
	is(t, "Use", s.Use(1, 10, 3), api.ErrRuns)
	has(t, s, 2, state(1, 2, 0))
}

// R3: the list that is loaded is not changed, not kept, and not read beyond its end.
func TestR3Load(t *testing.T) {
	room := []api.Draft{one(4), state(2, 5, 0), one(3), {Id: 4}, one(4)}
	kept := slices.Clone(room)
	s := loaded(t, 9, room[:3]...)
	if !slices.Equal(room, kept) {
		t.Error(room)
	}
	adds(t, s, one(1), 9, api.OK)
	copies(t, s, 3, 2, 1, api.OK, 10, 11)
	is(t, "Use", s.Use(4, 1, 1), api.OK)
	if !slices.Equal(room, kept) {
		t.Error(room)
	}
	for k := range room {
		room[k] = api.Draft{Id: 77}
	}
	has(t, s, 12, state(2, 5, 0), one(3), state(4, original, 1), one(9), state(10, 1, 0), state(11, 1, 0))
}

// R3: what is answered is new memory each time.
func TestR3List(t *testing.T) {
	s := loaded(t, 9, one(1), state(2, 5, 0))
	l := s.List()
	l[0], l[1] = api.Draft{Id: 77}, api.Draft{}
	l = append(l[:1], one(55))
	has(t, s, 9, one(1), state(2, 5, 0))
	first, e := s.Copies(1, 3, 2)
	second, f := s.Copies(1, 3, 2)
	if e != api.OK || f != api.OK {
		t.Fatal(e, f)
	}
	for k := range first {
		first[k] = 0
	}
	first = append(first, 1, 2, 3)
	if !slices.Equal(second, []int{12, 13, 14}) {
		t.Error(second)
	}
	if n := s.Next(); n != 15 || len(s.List()) != 8 {
		t.Error(n, l, first)
	}
}

// R4: what is asked changes nothing, and the same calls are answered the same.
func TestR4Asks(t *testing.T) {
	s, u := loaded(t, 9, one(1), state(2, 5, 0)), loaded(t, 9, state(2, 5, 0), one(1))
	for k := range 40 {
		if k%2 == 0 {
			s.List()
			s.Next()
			s.Clone().Use(1, 1, 1)
			s.Get(k)
		}
		a, e := s.Copies(1, 1+k%3, 1+k)
		b, f := u.Copies(1, 1+k%3, 1+k)
		if !slices.Equal(a, b) || e != f || s.Use(1+k, 3, k) != u.Use(1+k, 3, k) || s.Learn(k, 1, 0) != u.Learn(k, 1, 0) {
			t.Error(k, a, e, b, f)
		}
		has(t, s, u.Next(), u.List()...)
	}
}

// Drafts give out no call of the table that holds them: with it one could get around their rules.
func TestCalls(t *testing.T) {
	want := []string{"Add", "Clone", "Copies", "Free", "Get", "Give", "Learn", "List", "Next", "Use"}
	var got []string
	for k, c := 0, reflect.TypeFor[*draft.Drafts](); k < c.NumMethod(); k++ {
		got = append(got, c.Method(k).Name)
	}
	if !slices.Equal(got, want) {
		t.Error(got)
	}
	if c := reflect.TypeFor[draft.Drafts](); c.NumMethod() != 0 {
		t.Error(c.NumMethod())
	}
}
