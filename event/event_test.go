package event_test

import (
	"bottomry/api"
	"bottomry/event"
	"encoding/binary"
	"math"
	"math/rand/v2"
	"slices"
	"testing"
)

const (
	last  = api.MaxTime
	least = math.MinInt
	most  = math.MaxInt
)

// edges are numbers at the edges of all that is looked at, good ones and wrong ones.
var edges = []int{
	least, least + 1, -1 << 62, -1 << 40, -1 << 32, -2, -1, 0, 1, 2, 3, 4, 5, 6, 7, 8, 9, 127, 128, 129, 1 << 20, 1 << 21, 1 << 32, 1<<32 + 1, 1<<32 + 2, last - 1, last, last + 1, 2 * last, 1 << 62, most - 1, most,
}

// ends are all ends that there may be: of what, and how it then stands.
var ends = [][2]int{{1, 4}, {1, 6}, {2, 3}, {2, 4}, {2, 5}, {2, 6}, {2, 7}}

// chance are numbers that are the same at each run.
func chance() *rand.Rand { return rand.New(rand.NewPCG(20, 7)) }

// of is a mark.
func of(at, what, id, state int) api.Mark {
	return api.Mark{At: at, What: what, Id: id, State: state}
}

// job is the mark of a job that is ready.
func job(at, id int) api.Mark { return of(at, api.MarkJob, id, api.JobReady) }

// deal is the mark of a contract that is done.
func deal(at, id int) api.Mark { return of(at, api.MarkDeal, id, api.DealDone) }

// many are so many marks: of jobs and of contracts in turn, two at each time from one on.
func many(from, n int) []api.Mark {
	var l []api.Mark
	for k := range n {
		if k%2 == 0 {
			l = append(l, job(from+k/2, 1+k/2))
		} else {
			l = append(l, deal(from+k/2, 1+k/2))
		}
	}
	return l
}

// may is another hand's word on whether a mark may be.
func may(m api.Mark) bool {
	return m.At >= 0 && m.At <= 1<<40 && m.Id > 0 && m.Id <= 1<<40 && slices.Contains(ends, [2]int{m.What, m.State})
}

// mayStand is another hand's word on whether marks may stand in a log.
func mayStand(l []api.Mark) bool {
	for k, m := range l {
		if !may(m) || k > 127 {
			return false
		}
		for _, ahead := range l[:k] {
			if ahead.At > m.At || ahead.What == m.What && ahead.Id == m.Id {
				return false
			}
		}
	}
	return true
}

// bytesOf are another hand's bytes of marks, whatever their numbers are; one that goes round, or is below 0, is put as one of 64 bits.
func bytesOf(l []api.Mark) string {
	b := binary.AppendUvarint(nil, uint64(len(l)))
	for k, m := range l {
		late := m.At
		if k > 0 {
			late -= l[k-1].At
		}
		for _, n := range []int{late, m.What, m.Id, m.State} {
			b = binary.AppendUvarint(b, uint64(n))
		}
	}
	return string(b)
}

// loaded is a log with marks that there were.
func loaded(t *testing.T, l ...api.Mark) *event.Log {
	t.Helper()
	g, e := event.Load(l)
	if e != api.OK || g == nil {
		t.Fatalf("Load(%v): %v, %d", l, g, e)
	}
	return g
}

// refusesLoad looks at a Load that is to be refused.
func refusesLoad(t *testing.T, l ...api.Mark) {
	t.Helper()
	if g, e := event.Load(l); g != nil || e != api.ErrArg {
		t.Fatalf("Load(%v): %v, %d, want ErrArg", l, g, e)
	}
}

// loads looks at a Load, which is to be refused if the marks may not stand in a log.
func loads(t *testing.T, l ...api.Mark) {
	t.Helper()
	if mayStand(l) {
		has(t, loaded(t, l...), l...)
		return
	}
	refusesLoad(t, l...)
}

// adds looks at an Add, and its answer.
func adds(t *testing.T, g *event.Log, m api.Mark, want api.Errno) {
	t.Helper()
	if e := g.Add(m); e != want {
		t.Fatalf("Add(%v): %d, want %d", m, e, want)
	}
}

// between looks at a Between, and its answer.
func between(t *testing.T, g *event.Log, from, to int, want ...api.Mark) {
	t.Helper()
	if l := g.Between(from, to); !slices.Equal(l, want) {
		t.Fatalf("Between(%d, %d): %v, want %v", from, to, l, want)
	}
}

// counts looks at a Count, and its answer.
func counts(t *testing.T, g *event.Log, what, state, want int) {
	t.Helper()
	if n := g.Count(what, state); n != want {
		t.Fatalf("Count(%d, %d): %d, want %d", what, state, n, want)
	}
}

// hasNone looks at an Of of something that has no mark.
func hasNone(t *testing.T, g *event.Log, what, id int) {
	t.Helper()
	if m, ok := g.Of(what, id); ok || m != (api.Mark{}) {
		t.Fatalf("Of(%d, %d): %v, %v, want none", what, id, m, ok)
	}
}

// has looks at all that a log tells: it is to have these marks, as they came.
func has(t *testing.T, g *event.Log, want ...api.Mark) {
	t.Helper()
	if l := g.List(); !slices.Equal(l, want) {
		t.Fatalf("List: %v, want %v", l, want)
	}
	there := map[[2]int]bool{}
	count := map[[2]int]int{}
	for _, m := range want {
		if got, ok := g.Of(m.What, m.Id); got != m || !ok {
			t.Fatalf("Of(%d, %d): %v, %v, want %v", m.What, m.Id, got, ok, m)
		}
		there[[2]int{m.What, m.Id}] = true
		count[[2]int{m.What, m.State}]++
	}
	for what := -1; what < 5; what++ {
		for _, id := range append([]int{10, 64, 65}, edges...) {
			if !there[[2]int{what, id}] {
				hasNone(t, g, what, id)
			}
		}
		for state := -1; state < 9; state++ {
			counts(t, g, what, state, count[[2]int{what, state}])
		}
	}
	between(t, g, 0, last+1, want...)
	between(t, g, least, most, want...)
}

// Ev1: a zero log has none, and may be used.
func TestEv1Zero(t *testing.T) {
	for _, g := range []*event.Log{{}, new(event.Log), loaded(t), loaded(t, []api.Mark{}...)} {
		has(t, g)
		has(t, g.Clone())
		adds(t, g, api.Mark{}, api.ErrArg)
		has(t, g)
		adds(t, g, deal(0, 3), api.OK)
		has(t, g, deal(0, 3))
	}
	var g event.Log
	c := g.Clone()
	adds(t, c, job(1, 1), api.OK)
	has(t, &g)
	has(t, c, job(1, 1))
}

// Ev1: a log has the marks that are loaded, as they came; those of one time in whatever order.
func TestEv1Load(t *testing.T) {
	for _, l := range [][]api.Mark{
		nil, {}, {job(0, 1)}, {deal(last, last)},
		{job(3, 7), deal(3, 7), of(300, 2, 8, api.DealExpired)},
		{deal(3, 7), job(3, 7), job(3, 6), deal(3, 1), job(3, 9)},
		{of(0, 1, last, 6), of(0, 2, last, 7), of(1, 2, 1, 5), of(last-1, 1, 1, 4), of(last, 1, 2, 4), of(last, 1, 3, 6)},
		{of(5, 1, 4, 6), of(5, 2, 3, 3), of(5, 2, 4, 4), of(5, 2, 5, 5), of(5, 2, 6, 6), of(5, 2, 7, 7)},
	} {
		g := loaded(t, l...)
		has(t, g, l...)
		g = loaded(t, l...)
		adds(t, g, job(last, 77), api.OK)
		has(t, g, append(slices.Clone(l), job(last, 77))...)
	}
}

// Ev1: a mark may be at 0 to MaxTime, of a number of 1 to MaxTime, and with the ends of its kind.
func TestEv1LoadEdges(t *testing.T) {
	for _, n := range edges {
		for _, x := range ends {
			at, id := of(n, x[0], 5, x[1]), of(3, x[0], n, x[1])
			if n >= 0 && n <= 1<<40 {
				has(t, loaded(t, at), at)
			} else {
				refusesLoad(t, at)
				refusesLoad(t, at, job(last, 6))
			}
			if n >= 1 && n <= 1<<40 {
				has(t, loaded(t, id), id)
			} else {
				refusesLoad(t, id)
				refusesLoad(t, job(0, 6), id, job(last, 7))
			}
		}
		for _, state := range edges {
			loads(t, of(3, n, 5, state))
			loads(t, deal(0, 1), of(3, n, 5, state), deal(9, 2))
		}
	}
	refusesLoad(t, api.Mark{})
}

// Ev1: just seven ends may be.
func TestEv1Ends(t *testing.T) {
	for _, c := range []struct {
		what  int
		state int
		ok    bool
	}{
		{api.MarkJob, api.JobQueued, false}, {api.MarkJob, api.JobRunning, false}, {api.MarkJob, api.JobPaused, false}, {api.MarkJob, api.JobReady, true}, {api.MarkJob, api.JobDelivered, false}, {api.MarkJob, api.JobCancelled, true}, {api.MarkJob, 0, false}, {api.MarkJob, 7, false},
		{api.MarkDeal, api.DealOpen, false}, {api.MarkDeal, api.DealTaken, false}, {api.MarkDeal, api.DealDone, true}, {api.MarkDeal, api.DealFailed, true}, {api.MarkDeal, api.DealRejected, true}, {api.MarkDeal, api.DealWithdrawn, true}, {api.MarkDeal, api.DealExpired, true}, {api.MarkDeal, 0, false}, {api.MarkDeal, 8, false},
		{0, 4, false}, {3, 4, false}, {-1, 6, false}, {0, 3, false}, {3, 7, false},
	} {
		m := of(9, c.what, 2, c.state)
		g := loaded(t, job(9, 1))
		if c.ok {
			has(t, loaded(t, m), m)
			adds(t, g, m, api.OK)
			has(t, g, job(9, 1), m)
			continue
		}
		refusesLoad(t, m)
		adds(t, g, m, api.ErrArg)
		has(t, g, job(9, 1))
	}
}

// Ev1: no mark is ahead in time of the one that stands ahead of it.
func TestEv1LoadOrder(t *testing.T) {
	for _, c := range []struct {
		at []int
		ok bool
	}{
		{[]int{0, 0, 0}, true}, {[]int{0, 1, 2}, true}, {[]int{4, 4, 5}, true}, {[]int{4, 5, 5}, true}, {[]int{last, last, last}, true}, {[]int{0, 0, last}, true},
		{[]int{1, 0, 2}, false}, {[]int{0, 2, 1}, false}, {[]int{5, 5, 4}, false}, {[]int{last, last, last - 1}, false}, {[]int{last, 0, last}, false}, {[]int{1 << 33, 1, 1 << 34}, false}, {[]int{3, 9, 4}, false},
	} {
		l := []api.Mark{job(c.at[0], 9), deal(c.at[1], 9), job(c.at[2], 1)}
		if mayStand(l) != c.ok {
			t.Fatal(c)
		}
		loads(t, l...)
	}
}

// Ev1: no two marks are of one thing, wherever they stand, and however it ended; a job and a contract of one number are two things.
func TestEv1LoadTwice(t *testing.T) {
	for _, x := range []api.Mark{job(3, 5), of(3, 1, 5, api.JobCancelled), job(9, 5)} {
		refusesLoad(t, job(3, 5), x)
		refusesLoad(t, job(3, 5), deal(3, 5), x)
		refusesLoad(t, deal(1, 1), job(3, 5), deal(3, 5), x, job(10, 6))
	}
	for _, x := range []api.Mark{deal(3, 5), of(3, 2, 5, api.DealExpired), of(4, 2, 5, api.DealFailed)} {
		refusesLoad(t, deal(3, 5), x)
		refusesLoad(t, job(0, 5), deal(3, 5), job(3, 6), x)
		has(t, loaded(t, job(3, 5), x), job(3, 5), x)
	}
	// Numbers that are alike in their low bits are other numbers.
	l := []api.Mark{job(1, 1), job(1, 1<<32+1), job(1, 1<<16+1), job(1, 257), job(1, 2), deal(1, 1), deal(1, 1<<32+1)}
	has(t, loaded(t, l...), l...)
}

// Ev1: MaxMarks may be loaded, and no more.
func TestEv1LoadMany(t *testing.T) {
	has(t, loaded(t, many(0, 127)...), many(0, 127)...)
	has(t, loaded(t, many(0, 128)...), many(0, 128)...)
	has(t, loaded(t, many(last-63, 128)...), many(last-63, 128)...)
	refusesLoad(t, many(0, 129)...)
	refusesLoad(t, many(0, 1000)...)
	refusesLoad(t, append(many(0, 128), job(64, 64))...)
	// All may be of one kind: there are not so many of each.
	var l []api.Mark
	for k := range 128 {
		l = append(l, deal(5, 128-k))
	}
	has(t, loaded(t, l...), l...)
	refusesLoad(t, append(l, job(5, 1))...)
}

// Ev1: what is added stands behind all others.
func TestEv1Add(t *testing.T) {
	g := &event.Log{}
	var want []api.Mark
	for _, m := range []api.Mark{job(3, 7), deal(3, 7), of(3, 1, 1, 6), of(4, 2, 1, 4), of(4, 2, 9, 5), job(last-1, last), of(last, 2, 8, 6), of(last, 2, last, 7), job(last, 8)} {
		adds(t, g, m, api.OK)
		want = append(want, m)
		has(t, g, want...)
	}
	g = loaded(t, job(3, 7), deal(3, 2))
	adds(t, g, deal(3, 1), api.OK)
	adds(t, g, job(1000, 2), api.OK)
	has(t, g, job(3, 7), deal(3, 2), deal(3, 1), job(1000, 2))
}

// Ev1: what may not be, and what is below the last mark in time, is not added, and changes nothing.
func TestEv1AddEdges(t *testing.T) {
	l := []api.Mark{deal(2, 1), job(4, 1)}
	for _, n := range edges {
		for k, x := range ends {
			g := loaded(t, l...)
			if m := of(n, x[0], 5, x[1]); n >= 4 && n <= 1<<40 {
				adds(t, g, m, api.OK)
				has(t, g, append(slices.Clone(l), m)...)
			} else {
				adds(t, g, m, api.ErrArg)
				has(t, g, l...)
			}
			g = loaded(t, l...)
			if m := of(4+k, x[0], n, x[1]); n >= 2 && n <= 1<<40 {
				adds(t, g, m, api.OK)
				has(t, g, append(slices.Clone(l), m)...)
			} else if n != 1 {
				adds(t, g, m, api.ErrArg)
				has(t, g, l...)
			}
		}
		for _, state := range edges {
			g := loaded(t, l...)
			m := of(4, n, 5, state)
			want := slices.Clone(l)
			if may(m) {
				adds(t, g, m, api.OK)
				want = append(want, m)
			} else {
				adds(t, g, m, api.ErrArg)
			}
			has(t, g, want...)
		}
	}
}

// Ev1: of each thing there is one mark; what may not be is told ahead of that.
func TestEv1AddTwice(t *testing.T) {
	l := []api.Mark{job(3, 7), deal(3, 7), deal(5, 8)}
	g := loaded(t, l...)
	for k, x := range []struct {
		m    api.Mark
		want api.Errno
	}{
		{job(5, 7), api.ErrState}, {of(5, 1, 7, api.JobCancelled), api.ErrState}, {job(last, 7), api.ErrState}, {deal(5, 7), api.ErrState}, {deal(5, 8), api.ErrState}, {of(6, 2, 8, api.DealExpired), api.ErrState},
		{job(4, 7), api.ErrArg}, {job(3, 7), api.ErrArg}, {deal(0, 8), api.ErrArg}, {deal(last+1, 8), api.ErrArg}, {of(5, 1, 7, api.JobDelivered), api.ErrArg}, {of(5, 2, 8, api.DealTaken), api.ErrArg}, {of(5, 3, 7, 4), api.ErrArg}, {of(-1, 1, 7, 4), api.ErrArg},
		{job(4, 9), api.ErrArg}, {deal(4, 9), api.ErrArg}, {job(0, 9), api.ErrArg},
	} {
		if e := g.Add(x.m); e != x.want {
			t.Errorf("%d: Add(%v): %d, want %d", k, x.m, e, x.want)
		}
		has(t, g, l...)
	}
	adds(t, g, job(5, 8), api.OK)
	has(t, g, append(l, job(5, 8))...)
}

// Ev1: there are at most MaxMarks; what may not be, and what is there, is told ahead of that.
func TestEv1AddFull(t *testing.T) {
	for _, g := range []*event.Log{loaded(t, many(3, 126)...), {}} {
		for _, m := range many(3, 128)[len(g.List()):] {
			adds(t, g, m, api.OK)
		}
		for range 3 {
			adds(t, g, job(66, 65), api.ErrFull)
			adds(t, g, deal(last, last), api.ErrFull)
			adds(t, g, job(66, 1), api.ErrState)
			adds(t, g, deal(66, 64), api.ErrState)
			adds(t, g, job(65, 65), api.ErrArg)
			adds(t, g, job(65, 1), api.ErrArg)
			adds(t, g, of(66, 2, 65, api.DealOpen), api.ErrArg)
			adds(t, g, job(66, 0), api.ErrArg)
			has(t, g, many(3, 128)...)
		}
	}
}

// Ev1: the mark of something is told of it alone.
func TestEv1Of(t *testing.T) {
	l := []api.Mark{job(0, 1), deal(0, 2), of(7, 2, 1, 7), of(7, 1, last, 6), deal(9, last)}
	g := loaded(t, l...)
	for _, what := range edges {
		for _, id := range edges {
			i := slices.IndexFunc(l, func(m api.Mark) bool { return m.What == what && m.Id == id })
			if i < 0 {
				hasNone(t, g, what, id)
			} else if m, ok := g.Of(what, id); m != l[i] || !ok {
				t.Error(what, id, m, ok)
			}
		}
	}
	has(t, g, l...)
}

// Ev1: those between are not below one time, and below another one.
func TestEv1Between(t *testing.T) {
	l := []api.Mark{job(0, 1), deal(0, 1), deal(3, 2), job(3, 2), job(4, 9), of(last-1, 2, 8, 7), of(last, 1, 8, 6), of(last, 2, 9, 4)}
	g := loaded(t, l...)
	for _, c := range []struct{ from, to, first, end int }{
		{0, 3, 0, 2}, {0, 4, 0, 4}, {0, 1, 0, 2}, {1, 3, 2, 2}, {3, 4, 2, 4}, {3, 5, 2, 5}, {2, 4, 2, 4}, {4, 4, 4, 4}, {4, 5, 4, 5}, {1, 2, 2, 2},
		{0, 0, 0, 0}, {5, 3, 0, 0}, {4, 0, 0, 0}, {last, last, 0, 0}, {last - 1, last, 5, 6}, {last, last + 1, 6, 8}, {last + 1, most, 8, 8}, {5, last, 5, 6}, {4, last + 1, 4, 8},
		{-1, 0, 0, 0}, {-5, 1, 0, 2}, {least, 4, 0, 4}, {least, least, 0, 0}, {most, most, 0, 0}, {most, least, 0, 0}, {last, 0, 0, 0},
	} {
		between(t, g, c.from, c.to, l[c.first:c.end]...)
	}
	for _, from := range edges {
		for _, to := range edges {
			var want []api.Mark
			for _, m := range l {
				if m.At >= from && m.At < to {
					want = append(want, m)
				}
			}
			between(t, g, from, to, want...)
		}
	}
	has(t, g, l...)
}

// Ev1: how many have a What and a State.
func TestEv1Count(t *testing.T) {
	var l []api.Mark
	for k, x := range ends {
		for range 1 + k {
			l = append(l, of(k, x[0], 1+len(l), x[1]))
		}
	}
	g := loaded(t, l...)
	for _, what := range edges {
		for _, state := range edges {
			counts(t, g, what, state, 1+slices.Index(ends, [2]int{what, state}))
		}
	}
	has(t, g, l...)
}

// Ev1: a clone has the same, and goes its own way, and so does what was cloned.
func TestEv1Clone(t *testing.T) {
	for n := range 20 {
		l := many(0, n)
		g := loaded(t, l...)
		c := g.Clone()
		has(t, c, l...)
		adds(t, g, job(50, 50), api.OK)
		has(t, c, l...)
		adds(t, c, deal(40, 50), api.OK)
		adds(t, c, of(60, 1, 50, 6), api.OK)
		has(t, g, append(slices.Clone(l), job(50, 50))...)
		has(t, c, append(slices.Clone(l), deal(40, 50), of(60, 1, 50, 6))...)
		d := c.Clone()
		adds(t, d, job(60, 51), api.OK)
		adds(t, c, deal(60, 51), api.OK)
		adds(t, g, deal(51, 52), api.OK)
		has(t, g, append(slices.Clone(l), job(50, 50), deal(51, 52))...)
		has(t, c, append(slices.Clone(l), deal(40, 50), of(60, 1, 50, 6), deal(60, 51))...)
		has(t, d, append(slices.Clone(l), deal(40, 50), of(60, 1, 50, 6), job(60, 51))...)
	}
	full := loaded(t, many(0, 128)...).Clone()
	adds(t, full, job(99, 99), api.ErrFull)
	has(t, full, many(0, 128)...)
}

// Ev1, R1: a nil log has nothing, and answers ErrArg; its clone has none, and may be used.
func TestEv1Nil(t *testing.T) {
	var g *event.Log
	for _, n := range edges {
		adds(t, g, job(3, n), api.ErrArg)
	}
	has(t, g)
	if l, m := g.List(), g.Between(0, 9); len(l)+len(m) != 0 {
		t.Error(l, m)
	}
	c := g.Clone()
	if c == nil {
		t.Fatal("no clone")
	}
	has(t, c)
	adds(t, c, job(3, 1), api.OK)
	has(t, c, job(3, 1))
	has(t, g.Clone())
}

// puts looks at a Put, and at the Take of its bytes.
func puts(t *testing.T, want string, l ...api.Mark) {
	t.Helper()
	if s, e := event.Put(l); s != want || e != api.OK {
		t.Fatalf("Put(%v): %q, %d, want %q", l, s, e, want)
	}
	if x, e := event.Take(want); !slices.Equal(x, l) || e != api.OK {
		t.Fatalf("Take(%q): %v, %d, want %v", want, x, e, l)
	}
}

// putsOr looks at a Put, which is to be refused if the marks may not stand in a log, and at the Take of their bytes; it tells whether they may.
func putsOr(t *testing.T, l ...api.Mark) bool {
	t.Helper()
	if mayStand(l) {
		puts(t, bytesOf(l), l...)
		return true
	}
	if s, e := event.Put(l); s != "" || e != api.ErrArg {
		t.Fatalf("Put(%v): %q, %d, want ErrArg", l, s, e)
	}
	bad(t, bytesOf(l))
	return false
}

// bad looks at a Take that is to be refused.
func bad(t *testing.T, s string) {
	t.Helper()
	if l, e := event.Take(s); len(l) != 0 || e != api.ErrBad {
		t.Fatalf("Take(%q): %v, %d, want ErrBad", s, l, e)
	}
}

// takes looks at bytes that may be those of marks: if they are, they are just what is put of them. It tells whether they are, 1 or 0.
func takes(t *testing.T, s string) int {
	t.Helper()
	l, e := event.Take(s)
	if e == api.ErrBad && len(l) == 0 {
		return 0
	}
	if e != api.OK || !mayStand(l) || bytesOf(l) != s {
		t.Fatalf("Take(%q): %v, %d", s, l, e)
	}
	return 1
}

// Ev2: the bytes, written out: how many, then of each how much later, of what, its number, and how it stands.
func TestEv2PutTake(t *testing.T) {
	puts(t, "\x00")
	puts(t, "\x01\x00\x01\x01\x04", job(0, 1))
	puts(t, "\x01\x09\x02\x07\x05", of(9, 2, 7, 5))
	puts(t, "\x03\x03\x01\x07\x04\x00\x02\x07\x03\xa9\x02\x02\x08\x07", job(3, 7), deal(3, 7), of(300, 2, 8, 7))
	puts(t, "\x02\xac\x02\x01\xac\x02\x06\x00\x02\xac\x02\x06", of(300, 1, 300, 6), of(300, 2, 300, 6))
	puts(t, "\x03\x80\x80\x80\x80\x80\x20\x01\x80\x80\x80\x80\x80\x20\x04\x00\x01\x01\x04\x00\x02\x01\x04", job(last, last), job(last, 1), of(last, 2, 1, 4))
	puts(t, "\x02\x01\x01\x01\x04\xff\xff\xff\xff\xff\x1f\x01\x02\x04", job(1, 1), job(last, 2))
	puts(t, "\x04\x05\x02\x04\x03\x01\x02\x03\x04\x02\x02\x02\x06\x80\x01\x02\x01\x07", of(5, 2, 4, 3), of(6, 2, 3, 4), of(8, 2, 2, 6), of(136, 2, 1, 7))
	for n := range 129 {
		puts(t, bytesOf(many(n, n)), many(n, n)...)
	}
	puts(t, bytesOf(many(last-63, 128)), many(last-63, 128)...)
}

// Ev2: marks that may not stand in a log have no bytes.
func TestEv2PutArg(t *testing.T) {
	for _, l := range [][]api.Mark{
		{{}}, {job(-1, 1)}, {job(last+1, 1)}, {job(3, 0)}, {job(3, last+1)}, {of(3, 1, 1, 5)}, {of(3, 2, 1, 2)}, {of(3, 2, 1, 8)}, {of(3, 3, 1, 4)}, {of(3, 0, 1, 4)},
		{job(3, 1), job(2, 2)}, {job(3, 1), job(3, 1)}, {job(3, 1), of(4, 1, 1, 6)}, {job(1, 1), deal(2, 1), deal(3, 1)}, {job(last, 1), job(last+1, 2)}, {job(3, 1), {}},
		many(0, 129), append(many(0, 128), many(0, 1)...), many(0, 1000),
	} {
		if putsOr(t, l...) {
			t.Error("these may stand in a log:", l)
		}
	}
	for _, n := range edges {
		putsOr(t, job(n, 1))
		putsOr(t, job(3, n))
		putsOr(t, job(3, 1), deal(n, 1), job(last, 2))
		putsOr(t, job(3, 1), deal(3, n))
		for _, state := range edges {
			putsOr(t, job(3, 1), of(3, n, 2, state))
		}
	}
}

// Ev2: bytes that are cut, longer, or changed: only those that Put gives are those of marks.
func TestEv2TakeBad(t *testing.T) {
	bad(t, "")
	good := 0
	for _, l := range [][]api.Mark{
		nil, {job(0, 1)}, {job(3, 7), deal(3, 7), of(300, 2, 8, 7)}, {of(300, 1, 300, 6), of(300, 2, 300, 6)}, {job(1, 1), job(last, 2)}, {deal(last, last), job(last, last)}, many(0, 4), many(200, 9),
	} {
		s := bytesOf(l)
		for k := range len(s) {
			bad(t, s[:k])
			for _, b := range []byte{0, 1, 2, 3, 4, 5, 6, 7, 8, 127, 128, 129, 255, s[k] + 1, s[k] ^ 128, s[k] - 1} {
				good += takes(t, s[:k]+string([]byte{b})+s[k+1:])
				good += takes(t, s[:k]+string([]byte{b})+s[k:])
			}
			good += takes(t, s[:k]+s[k+1:])
		}
		for _, behind := range []string{"\x00", "\x01", "\x80", "\xff", s} {
			bad(t, s+behind)
			good += takes(t, behind+s)
		}
	}
	if good < 300 {
		t.Error("too few are good:", good)
	}
}

// Ev2: bytes that are well, but for a number that may not be, or how a number is written.
func TestEv2TakeOfNumbers(t *testing.T) {
	for _, s := range []string{
		"\x01", "\x01\x03\x01\x07", "\x02\x03\x01\x07\x04", "\x00\x03\x01\x07\x04", "\x80", "\x80\x00", "\x81\x00\x03\x01\x07\x04",
		"\x01\x83\x00\x01\x07\x04", "\x01\x03\x81\x00\x07\x04", "\x01\x03\x01\x87\x00\x04", "\x01\x03\x01\x07\x84\x00",
		"\x01\x03\x00\x07\x04", "\x01\x03\x03\x07\x04", "\x01\x03\x01\x00\x04", "\x01\x03\x01\x07\x05", "\x01\x03\x01\x07\x03", "\x01\x03\x02\x07\x02", "\x01\x03\x02\x07\x08", "\x01\x03\x01\x07\x00",
		"\x02\x03\x01\x07\x04\x00\x01\x07\x04", "\x02\x03\x01\x07\x04\x09\x01\x07\x06", "\x03\x03\x02\x07\x04\x00\x01\x07\x04\x00\x02\x07\x04",
		// Beyond MaxTime: at once, and as a sum.
		"\x01\x81\x80\x80\x80\x80\x20\x01\x07\x04", "\x02\x80\x80\x80\x80\x80\x20\x01\x07\x04\x01\x01\x08\x04", "\x02\x01\x01\x07\x04\x80\x80\x80\x80\x80\x20\x01\x08\x04",
		// A number of 64 bits, and sums that would go round to a time that may be.
		"\x01\xff\xff\xff\xff\xff\xff\xff\xff\xff\x01\x01\x07\x04", "\x02\x03\x01\x07\x04\xff\xff\xff\xff\xff\xff\xff\xff\xff\x01\x01\x08\x04", "\x02\x03\x01\x07\x04\xfe\xff\xff\xff\xff\xff\xff\xff\xff\x01\x01\x08\x04",
		"\x03\x03\x01\x07\x04\xff\xff\xff\xff\xff\xff\xff\xff\x7f\x01\x08\x04\xff\xff\xff\xff\xff\xff\xff\xff\x7f\x01\x09\x04",
		"\x01\x03\x01\x87\x80\x80\x80\x80\x80\x80\x80\x80\x01\x04", "\x01\x03\x81\x80\x80\x80\x80\x80\x80\x80\x80\x01\x07\x04", "\x01\x03\x01\x81\x80\x80\x80\x80\x20\x04",
		"\xff\xff\xff\xff\xff\xff\xff\xff\x7f", "\xff\xff\xff\xff\xff\xff\xff\xff\xff\x01", "\xff\xff\xff\xff\xff\xff\xff\xff\xff\x01\x03\x01\x07\x04",
	} {
		bad(t, s)
	}
	all := bytesOf(many(0, 128))
	if takes(t, all) != 1 || takes(t, "\x7f"+all[2:len(all)-4]) != 1 {
		t.Error("so many may be")
	}
	bad(t, "\x81\x01"+all[2:]+"\x00\x01\x41\x04")
	bad(t, "\x80\x01"+all[2:]+"\x00\x01\x41\x04")
	bad(t, "\x81\x01"+all[2:])
	bad(t, "\x7f"+all[2:])
}

// anyMark is a mark by chance: mostly one that may be, and not far behind a time.
func anyMark(r *rand.Rand, at int) api.Mark {
	x := ends[r.IntN(len(ends))]
	m := of(at+r.IntN(3), x[0], 1+r.IntN(150), x[1])
	if r.IntN(12) == 0 {
		n := edges[r.IntN(len(edges))]
		switch r.IntN(5) {
		case 0:
			m.At = n
		case 1:
			m.What = n
		case 2:
			m.Id = n
		case 3:
			m.State = n
		case 4:
			m.At = at - 1 - r.IntN(3)
		}
	}
	return m
}

// marks are some by chance, that mostly may stand in a log.
func marks(r *rand.Rand) []api.Mark {
	var l []api.Mark
	at := []int{0, 5, 1 << 20, last - 20}[r.IntN(4)]
	for range []int{0, 1, 2, 5, 9, 40}[r.IntN(6)] {
		m := anyMark(r, at)
		if r.IntN(3) > 0 && !mayStand(append(slices.Clone(l), m)) {
			continue
		}
		l = append(l, m)
		at = m.At
	}
	return l
}

// Ev3: what is put by chance is taken as it was, and loaded; what may not stand in a log is neither.
func TestEv3PutTake(t *testing.T) {
	r := chance()
	good, wrong := 0, 0
	for range 30_000 {
		l := marks(r)
		if putsOr(t, l...) {
			good++
			if got := loaded(t, l...).List(); !slices.Equal(got, l) {
				t.Fatal(got, l)
			}
			continue
		}
		wrong++
		refusesLoad(t, l...)
	}
	if good < 5000 || wrong < 5000 {
		t.Error("not often enough:", good, wrong)
	}
}

// Ev3: bytes by chance are those of marks just if they are put of them.
func TestEv3Bytes(t *testing.T) {
	r := chance()
	good := 0
	for range 100_000 {
		s := make([]byte, r.IntN(14))
		for k := range s {
			s[k] = byte(r.IntN(1 << (1 + r.IntN(8))))
		}
		if len(s) > 3 && len(s)%4 == 1 && r.IntN(2) == 0 {
			s[0] = byte(len(s) / 4)
			for k := 1; k < len(s); k += 4 {
				s[k+1], s[k+3] = byte(1+r.IntN(2)), byte(3+r.IntN(5))
			}
		}
		good += takes(t, string(s))
	}
	if good < 1000 {
		t.Error("too few are good:", good)
	}
}

// answer is another hand's answer to an Add to marks.
func answer(l []api.Mark, m api.Mark) api.Errno {
	if !may(m) || len(l) > 0 && m.At < l[len(l)-1].At {
		return api.ErrArg
	}
	for _, x := range l {
		if x.What == m.What && x.Id == m.Id {
			return api.ErrState
		}
	}
	if len(l) > 127 {
		return api.ErrFull
	}
	return api.OK
}

// Ev3: calls by chance answer what another hand's list answers; what is refused changes nothing; of each thing there is one end, which stays.
func TestEv3Chance(t *testing.T) {
	r := chance()
	told := map[api.Errno]int{}
	for range 150 {
		l := many(0, []int{0, 1, 7, 60, 120}[r.IntN(5)])
		g := loaded(t, l...)
		for range 60 {
			at := 0
			if len(l) > 0 {
				at = l[len(l)-1].At
			}
			m := anyMark(r, at)
			kept, ahead := g.Clone(), slices.Clone(l)
			e := answer(l, m)
			adds(t, g, m, e)
			told[e]++
			if e == api.OK {
				l = append(l, m)
			}
			if got := g.List(); !slices.Equal(got, l) || !slices.Equal(kept.List(), ahead) {
				t.Fatalf("Add(%v) to %v: %v", m, ahead, got)
			}
			if first, ok := g.Of(m.What, m.Id); ok != (e == api.OK || slices.Contains(l, first)) || ok && e != api.OK && !slices.Contains(ahead, first) {
				t.Fatal(m, first, ok)
			}
			// Now and then the clone goes on.
			if r.IntN(10) == 0 {
				g, l = kept, ahead
			}
		}
		has(t, g, l...)
		if !mayStand(l) {
			t.Fatal("they may not stand in a log:", l)
		}
		puts(t, bytesOf(l), g.List()...)
	}
	if told[api.OK] < 1000 || told[api.ErrArg] < 300 || told[api.ErrState] < 300 || told[api.ErrFull] < 300 {
		t.Error("not told often enough:", told)
	}
}

// Example 1: a second mark of one job.
func TestExample(t *testing.T) {
	g := &event.Log{}
	adds(t, g, job(3, 1), api.OK)
	adds(t, g, of(4, 1, 1, api.JobCancelled), api.ErrState)
	adds(t, g, job(3, 1), api.ErrState)
	has(t, g, job(3, 1))
}

// R1: all calls end, whatever they are given.
func TestR1Ends(t *testing.T) {
	r := chance()
	n := func() int { return edges[r.IntN(len(edges))] }
	for range 30_000 {
		var l []api.Mark
		for range r.IntN(5) {
			l = append(l, of(n(), n(), n(), n()))
		}
		loads(t, l...)
		putsOr(t, l...)
	}
	s := make([]byte, 1<<20)
	bad(t, string(s))
	for k := range s {
		s[k] = 0xff
	}
	bad(t, string(s))
	refusesLoad(t, many(0, 1<<20)...)
}

// R3: a list that is handed in is not changed, not kept, and not read beyond its end.
func TestR3Lists(t *testing.T) {
	room := []api.Mark{job(3, 7), deal(3, 7), of(9, 2, 8, 7), job(1, 7), {}}
	kept := slices.Clone(room)
	g := loaded(t, room[:3]...)
	puts(t, bytesOf(room[:3]), room[:3]...)
	adds(t, g, job(9, 9), api.OK)
	if !slices.Equal(room, kept) {
		t.Fatal(room)
	}
	for k := range room {
		room[k] = job(1, 77)
	}
	has(t, g, append(slices.Clone(kept[:3]), job(9, 9))...)
}

// R3: what is answered is new memory each time.
func TestR3Answers(t *testing.T) {
	want := []api.Mark{job(3, 7), deal(3, 7), of(9, 2, 8, 7)}
	g := loaded(t, want...)
	s, _ := event.Put(want)
	taken, _ := event.Take(s)
	for _, l := range [][]api.Mark{g.List(), g.Between(0, 100), g.Between(3, 9), g.Between(9, 10), taken} {
		l = append(l, job(5, 5))
		for k := range l[:cap(l)] {
			l[:cap(l)][k] = job(1, 77)
		}
		has(t, g, want...)
	}
	again, _ := event.Take(s)
	if !slices.Equal(again, want) {
		t.Error(again)
	}
	adds(t, g, job(9, 9), api.OK)
	has(t, g, append(want, job(9, 9))...)
}

// R3: nil and the empty list are the same.
func TestR3Empty(t *testing.T) {
	a, e := event.Put(nil)
	b, f := event.Put([]api.Mark{})
	if a != "\x00" || b != a || e != api.OK || f != api.OK {
		t.Errorf("%q %q", a, b)
	}
}

// R4: what is asked changes nothing, and the same calls are answered the same.
func TestR4Same(t *testing.T) {
	l := many(0, 20)
	g, u := loaded(t, l...), loaded(t, l...)
	for k := range 40 {
		if k%2 == 0 {
			g.Of(1, k)
			g.Between(k, k+5)
			g.Count(1, 4)
			adds(t, g.Clone(), job(99, 99), api.OK)
			event.Put(g.List())
		}
		m := job(9+k, 1+k)
		if e, f := g.Add(m), u.Add(m); e != f {
			t.Error(k, e, f)
		}
		has(t, g, u.List()...)
		puts(t, bytesOf(u.List()), g.List()...)
	}
}
