package graph_test

import (
	"bottomry/api"
	"bottomry/graph"
	"math"
	"math/big"
	"math/rand/v2"
	"slices"
	"testing"
)

// chance are numbers that are the same at each run.
func chance() *rand.Rand { return rand.New(rand.NewPCG(13, 64)) }

// of are needs: a node, which one it needs, and so on.
func of(n ...int) [][2]int {
	var l [][2]int
	for k := 0; k+1 < len(n); k += 2 {
		l = append(l, [2]int{n[k], n[k+1]})
	}
	return l
}

// times are needs, so often: all of them, one behind the other, and again.
func times(l [][2]int, n int) [][2]int {
	var all [][2]int
	for range n {
		all = append(all, l...)
	}
	return all
}

// chain are needs of each node from 2 to n of the one ahead of it, each so often.
func chain(n, often int) [][2]int {
	var l [][2]int
	for k := 2; k <= n; k++ {
		l = append(l, times(of(k, k-1), often)...)
	}
	return l
}

// upTo are the numbers 1 to n.
func upTo(n int) []int {
	var l []int
	for k := range n {
		l = append(l, k+1)
	}
	return l
}

// may tells whether there may be so many nodes, and such needs, in the chapter's words.
func may(n int, needs [][2]int) bool {
	if n < 0 || n > 64 || len(needs) > 256 {
		return false
	}
	return !slices.ContainsFunc(needs, func(x [2]int) bool { return min(x[0], x[1]) < 1 || max(x[0], x[1]) > n })
}

// rows are in how many rows of so many needs each node leads to each other one; in numbers without bounds.
type rows [][]*big.Int

// none are no rows, between n nodes.
func none(n int) rows {
	r := make(rows, n+1)
	for a := range r {
		r[a] = make([]*big.Int, n+1)
		for b := range r[a] {
			r[a][b] = new(big.Int)
		}
	}
	return r
}

// lines are rows of no needs, of one, of two, and so on, up to as many as there are nodes, by another hand: each one is the one ahead of it, and one need more.
func lines(n int, needs [][2]int) []rows {
	l := []rows{none(n)}
	for a := 1; a <= n; a++ {
		l[0][a][a].SetInt64(1)
	}
	for k := 1; k <= n; k++ {
		l = append(l, none(n))
		for _, x := range needs {
			for a := 1; a <= n; a++ {
				l[k][a][x[1]].Add(l[k][a][x[1]], l[k-1][a][x[0]])
			}
		}
	}
	return l
}

// hand is what another hand tells of a graph: without closures that call themselves, and without an order.
type hand struct {
	n     int
	needs [][2]int
	arg   bool
	lines []rows
	round bool
}

// other is another hand, of a graph.
func other(n int, needs [][2]int) hand {
	h := hand{n: n, needs: needs, arg: !may(n, needs)}
	if h.arg {
		return h
	}
	h.lines = lines(n, needs)
	for a := 1; a <= n; a++ {
		h.round = h.round || h.leads(a, a)
	}
	return h
}

// leads tells whether needs, one or more, lead from a node to another one.
func (h hand) leads(a, b int) bool {
	return slices.ContainsFunc(h.lines[1:], func(r rows) bool { return r[a][b].Sign() > 0 })
}

// err is the error of what must not lead round.
func (h hand) err() api.Errno {
	if h.arg {
		return api.ErrArg
	}
	if h.round {
		return api.ErrState
	}
	return api.OK
}

// order goes through all that are left, from the least one on, till one needs none of them, directly or not.
func (h hand) order() ([]int, api.Errno) {
	if e := h.err(); e != api.OK {
		return nil, e
	}
	left := upTo(h.n)
	var l []int
	for len(left) > 0 {
		k := slices.IndexFunc(left, func(a int) bool {
			return !slices.ContainsFunc(left, func(b int) bool { return h.leads(a, b) })
		})
		l = append(l, left[k])
		left = slices.Delete(left, k, k+1)
	}
	return l, api.OK
}

// deep is of how many needs the longest row is that begins at each node.
func (h hand) deep() ([]int, api.Errno) {
	if e := h.err(); e != api.OK {
		return nil, e
	}
	l := make([]int, h.n)
	for a := 1; a <= h.n; a++ {
		for k, r := range h.lines {
			if slices.ContainsFunc(r[a][1:h.n+1], func(m *big.Int) bool { return m.Sign() > 0 }) {
				l[a-1] = k
			}
		}
	}
	return l, api.OK
}

func (h hand) below(node int) ([]int, api.Errno) {
	if h.arg || node < 1 || node > h.n {
		return nil, api.ErrArg
	}
	return slices.DeleteFunc(upTo(h.n), func(b int) bool { return !h.leads(node, b) }), api.OK
}

func (h hand) ways(from, to int) (int, api.Errno) {
	if h.arg || min(from, to) < 1 || max(from, to) > h.n {
		return 0, api.ErrArg
	}
	if h.round {
		return 0, api.ErrState
	}
	sum := new(big.Int)
	for _, r := range h.lines {
		sum.Add(sum, r[from][to])
	}
	if !sum.IsInt64() {
		return 0, api.ErrOver
	}
	return int(sum.Int64()), api.OK
}

// list looks at a list and an error; beside an error the list is to be empty.
func list(t *testing.T, what string, n int, needs [][2]int, l []int, e api.Errno, want []int, err api.Errno) {
	t.Helper()
	if !slices.Equal(l, want) || e != err {
		t.Errorf("%s of %d, %v: %v, %d, want %v, %d", what, n, needs, l, e, want, err)
	}
}

// ordered, dug, under and led hold a call against what is wanted.
func ordered(t *testing.T, n int, needs [][2]int, want []int, err api.Errno) {
	t.Helper()
	l, e := graph.Order(n, needs)
	list(t, "Order", n, needs, l, e, want, err)
}

func dug(t *testing.T, n int, needs [][2]int, want []int, err api.Errno) {
	t.Helper()
	l, e := graph.Deep(n, needs)
	list(t, "Deep", n, needs, l, e, want, err)
}

func under(t *testing.T, n int, needs [][2]int, node int, want []int, err api.Errno) {
	t.Helper()
	l, e := graph.Below(n, needs, node)
	if !slices.Equal(l, want) || e != err {
		t.Errorf("Below of %d, %v, %d: %v, %d, want %v, %d", n, needs, node, l, e, want, err)
	}
}

func led(t *testing.T, n int, needs [][2]int, from, to, want int, err api.Errno) {
	t.Helper()
	if m, e := graph.Ways(n, needs, from, to); m != want || e != err {
		t.Errorf("Ways of %d, %v, %d to %d: %d, %d, want %d, %d", n, needs, from, to, m, e, want, err)
	}
}

// held holds all calls on a graph, at each of some nodes, against another hand.
func held(t *testing.T, n int, needs [][2]int, nodes []int) {
	t.Helper()
	h := other(n, needs)
	l, e := h.order()
	ordered(t, n, needs, l, e)
	l, e = h.deep()
	dug(t, n, needs, l, e)
	for _, a := range nodes {
		l, e = h.below(a)
		under(t, n, needs, a, l, e)
		for _, b := range nodes {
			m, e := h.ways(a, b)
			led(t, n, needs, a, b, m, e)
		}
	}
}

// refused holds all calls on a graph that may not be to ErrArg, whatever the nodes.
func refused(t *testing.T, n int, needs [][2]int) {
	t.Helper()
	ordered(t, n, needs, nil, api.ErrArg)
	dug(t, n, needs, nil, api.ErrArg)
	for _, a := range []int{math.MinInt, -1, 0, 1, 2, 63, 64, 65, 66, math.MaxInt} {
		under(t, n, needs, a, nil, api.ErrArg)
		led(t, n, needs, a, a, 0, api.ErrArg)
		led(t, n, needs, a, 1, 0, api.ErrArg)
		led(t, n, needs, 1, a, 0, api.ErrArg)
	}
}

// Gr1: how many nodes there may be.
func TestGr1Nodes(t *testing.T) {
	for _, n := range []int{math.MinInt, -64, -1, 65, 66, 128, math.MaxInt} {
		refused(t, n, nil)
		refused(t, n, of(1, 2))
	}
	ordered(t, 0, nil, nil, api.OK)
	dug(t, 0, nil, nil, api.OK)
	under(t, 0, nil, 0, nil, api.ErrArg)
	under(t, 0, nil, 1, nil, api.ErrArg)
	led(t, 0, nil, 0, 0, 0, api.ErrArg)
	led(t, 0, nil, 1, 1, 0, api.ErrArg)
	for n := 1; n <= 64; n++ {
		ordered(t, n, nil, upTo(n), api.OK)
		dug(t, n, nil, make([]int, n), api.OK)
		under(t, n, nil, n, nil, api.OK)
		led(t, n, nil, n, n, 1, api.OK)
		if n > 1 {
			led(t, n, nil, n, 1, 0, api.OK)
			led(t, n, nil, 1, n, 0, api.OK)
		}
	}
}

// Gr1: how many needs there may be; one that is there twice counts twice.
func TestGr1Needs(t *testing.T) {
	for _, l := range [][][2]int{of(2, 1), of(2, 1, 3, 1, 3, 2), of(64, 1, 64, 2, 63, 1)} {
		all := times(l, 300)
		for _, n := range []int{0, 1, 255, 256} {
			held(t, 64, all[:n], []int{1, 2, 3, 63, 64})
		}
		for _, n := range []int{257, 258, 300} {
			refused(t, 64, all[:n])
		}
	}
	led(t, 2, times(of(2, 1), 256), 2, 1, 256, api.OK)
}

// Gr1: a need has nodes alone, wherever it stands.
func TestGr1NoNode(t *testing.T) {
	for _, n := range []int{0, 1, 2, 3, 63, 64} {
		for _, bad := range []int{math.MinInt, -1, 0, n + 1, n + 2, 65, 256, math.MaxInt} {
			for _, x := range [][2]int{{bad, 1}, {1, bad}, {bad, bad}, {bad, n}, {n, bad}, {bad, 0}, {0, bad}} {
				refused(t, n, [][2]int{x})
				refused(t, n, [][2]int{{1, n}, x})
				refused(t, n, [][2]int{x, {1, n}})
				refused(t, n, append(times(of(1, 1), 255), x))
			}
		}
	}
	refused(t, 0, of(1, 1))
}

// Gr1: node, from and to are nodes; that is told ahead of needs that lead round, and of too many ways.
func TestGr1Node(t *testing.T) {
	for _, l := range [][][2]int{nil, of(2, 1), of(1, 1), of(1, 2, 2, 1)} {
		for _, bad := range []int{math.MinInt, -1, 0, 3, 64, 65, 1 << 40, math.MaxInt} {
			under(t, 2, l, bad, nil, api.ErrArg)
			led(t, 2, l, bad, 1, 0, api.ErrArg)
			led(t, 2, l, 1, bad, 0, api.ErrArg)
			led(t, 2, l, bad, bad, 0, api.ErrArg)
		}
	}
	for _, bad := range []int{-1, 0, 65, math.MaxInt} {
		under(t, 64, chain(64, 4), bad, nil, api.ErrArg)
		led(t, 64, chain(64, 4), bad, 1, 0, api.ErrArg)
		led(t, 64, chain(64, 4), 64, bad, 0, api.ErrArg)
	}
}

// round holds that needs lead round: all calls tell it, but Below.
func round(t *testing.T, n int, needs [][2]int) {
	t.Helper()
	ordered(t, n, needs, nil, api.ErrState)
	dug(t, n, needs, nil, api.ErrState)
	for a := 1; a <= n; a++ {
		if _, e := graph.Below(n, needs, a); e != api.OK {
			t.Errorf("Below of %d, %v, %d: %d", n, needs, a, e)
		}
		for b := 1; b <= n; b++ {
			led(t, n, needs, a, b, 0, api.ErrState)
		}
	}
}

// Gr1: needs that lead from a node to itself, wherever; of rings of all lengths too.
func TestGr1Round(t *testing.T) {
	round(t, 1, of(1, 1))
	round(t, 3, of(3, 3))
	round(t, 3, of(2, 1, 1, 2))
	round(t, 5, of(4, 5, 5, 4, 2, 1))
	round(t, 4, of(1, 2, 2, 3, 3, 1, 4, 1))
	round(t, 4, of(1, 2, 2, 3, 3, 1, 1, 4))
	round(t, 4, of(1, 1, 1, 1))
	for long := 1; long <= 64; long++ {
		ring := append(chain(long, 1), [2]int{1, long})
		round(t, long, ring)
		for node := 1; node <= long; node++ {
			under(t, long, ring, node, upTo(long), api.OK)
		}
		slices.Reverse(ring)
		ordered(t, 64, ring, nil, api.ErrState)
		dug(t, 64, ring, nil, api.ErrState)
		led(t, 64, ring, 64, 64, 0, api.ErrState)
	}
	// Of too many ways nothing is told where needs lead round.
	many := append(chain(64, 4), [2]int{1, 1})
	led(t, 64, many, 64, 1, 0, api.ErrState)
	led(t, 64, append(many, [2]int{1, 64}), 64, 1, 0, api.ErrState)
}

// Gr2: Order, in words that are written out.
func TestGr2OrderWritten(t *testing.T) {
	for _, x := range []struct {
		n     int
		needs [][2]int
		want  []int
	}{
		{3, of(1, 3, 2, 1), []int{3, 1, 2}}, // the chapter's example
		{1, nil, []int{1}},
		{2, of(1, 2), []int{2, 1}},
		{2, of(2, 1), []int{1, 2}},
		{2, of(1, 2, 1, 2, 1, 2), []int{2, 1}},
		{3, of(1, 3), []int{2, 3, 1}},
		{3, of(2, 3), []int{1, 3, 2}},
		{4, of(1, 4, 2, 3, 3, 4), []int{4, 1, 3, 2}}, // 1 comes as soon as it may, though 3 was there ahead
		{4, of(1, 4), []int{2, 3, 4, 1}},             // 4 is not drawn ahead for 1
		{5, of(1, 2, 1, 5, 3, 5), []int{2, 4, 5, 1, 3}},
		{5, of(5, 1, 4, 5, 3, 4, 2, 3), []int{1, 5, 4, 3, 2}},
		{6, of(4, 2, 4, 3, 2, 1, 3, 1, 5, 4), []int{1, 2, 3, 4, 5, 6}},
		{6, of(1, 6, 2, 5, 3, 4), []int{4, 3, 5, 2, 6, 1}},
	} {
		ordered(t, x.n, x.needs, x.want, api.OK)
		slices.Reverse(x.needs)
		ordered(t, x.n, x.needs, x.want, api.OK)
	}
}

// Gr2: Deep, in words that are written out: the longest way down counts.
func TestGr2DeepWritten(t *testing.T) {
	for _, x := range []struct {
		n     int
		needs [][2]int
		want  []int
	}{
		{1, nil, []int{0}},
		{3, of(1, 3, 2, 1), []int{1, 2, 0}},
		{2, of(1, 2, 1, 2), []int{1, 0}},
		{4, of(4, 1, 4, 2, 2, 3, 3, 1), []int{0, 2, 1, 3}},
		{4, of(4, 2, 4, 1, 2, 3, 3, 1), []int{0, 2, 1, 3}},
		{6, of(4, 2, 4, 3, 2, 1, 3, 1, 5, 4), []int{0, 1, 1, 2, 3, 0}},
		{5, of(1, 2, 1, 3, 1, 4, 1, 5), []int{1, 0, 0, 0, 0}},
		{5, of(2, 1, 3, 1, 4, 1, 5, 1), []int{0, 1, 1, 1, 1}},
	} {
		dug(t, x.n, x.needs, x.want, api.OK)
		slices.Reverse(x.needs)
		dug(t, x.n, x.needs, x.want, api.OK)
	}
}

// Gr2: Below, in words that are written out; needs may lead round.
func TestGr2BelowWritten(t *testing.T) {
	l := of(4, 2, 4, 3, 2, 1, 3, 1, 5, 4)
	back := of(1, 2, 2, 3, 3, 1, 4, 1, 3, 5)
	for _, x := range []struct {
		needs [][2]int
		node  int
		want  []int
	}{
		{l, 1, nil},
		{l, 2, []int{1}},
		{l, 3, []int{1}},
		{l, 4, []int{1, 2, 3}},
		{l, 5, []int{1, 2, 3, 4}},
		{l, 6, nil},
		{back, 1, []int{1, 2, 3, 5}},
		{back, 2, []int{1, 2, 3, 5}},
		{back, 3, []int{1, 2, 3, 5}},
		{back, 4, []int{1, 2, 3, 5}},
		{back, 5, nil},
		{of(3, 3), 3, []int{3}},
		{of(3, 3), 2, nil},
		{of(3, 3, 2, 3), 2, []int{3}},
		{of(1, 6, 1, 2, 1, 4), 1, []int{2, 4, 6}},
		{of(6, 1, 6, 1), 6, []int{1}},
		{of(6, 1, 6, 1), 1, nil},
	} {
		under(t, 6, x.needs, x.node, x.want, api.OK)
		turned := slices.Clone(x.needs)
		slices.Reverse(turned)
		under(t, 6, turned, x.node, x.want, api.OK)
	}
}

// Gr2: Ways, in words that are written out.
func TestGr2WaysWritten(t *testing.T) {
	l := of(4, 2, 4, 3, 2, 1, 3, 1, 5, 4)
	for _, x := range []struct {
		needs          [][2]int
		from, to, want int
	}{
		{l, 5, 1, 2},
		{l, 4, 1, 2},
		{l, 5, 4, 1},
		{l, 5, 3, 1},
		{l, 2, 1, 1},
		{l, 1, 5, 0},
		{l, 2, 3, 0},
		{l, 6, 1, 0},
		{l, 1, 6, 0},
		{l, 6, 6, 1},
		{l, 4, 4, 1},
		{of(2, 1, 2, 1), 2, 1, 2}, // one need that is there twice
		{of(2, 1, 2, 1), 2, 2, 1},
		{of(2, 1, 2, 1), 1, 1, 1},
		{of(2, 1, 2, 1), 1, 2, 0},
		{of(3, 2, 3, 2, 3, 2, 2, 1, 2, 1), 3, 1, 6},
		{of(3, 2, 3, 2, 3, 2, 2, 1, 2, 1, 3, 1), 3, 1, 7},
		{of(3, 1, 3, 2, 2, 1), 3, 1, 2},
		{of(1, 2, 2, 6, 1, 3, 3, 6, 1, 4, 4, 6, 1, 5, 5, 6, 1, 6), 1, 6, 5},
	} {
		led(t, 6, x.needs, x.from, x.to, x.want, api.OK)
		turned := slices.Clone(x.needs)
		slices.Reverse(turned)
		led(t, 6, turned, x.from, x.to, x.want, api.OK)
	}
}

// most are needs of 64 nodes, of which 2^63 - 1 ways lead from the last one to the first one.
func most() [][2]int {
	l := of(2, 1)
	for k := 3; k <= 64; k++ {
		l = append(l, of(k, k-1, k, k-1, k, 1)...)
	}
	return l
}

// Gr2: so many ways as an int tells are told, and one more are too many.
func TestGr2WaysOver(t *testing.T) {
	for k := range 63 {
		led(t, 64, chain(64, 2), k+1, 1, 1<<k, api.OK)
		led(t, 64, chain(64, 2), 64, 64-k, 1<<k, api.OK)
	}
	led(t, 64, chain(64, 2), 64, 1, 0, api.ErrOver)
	led(t, 64, most(), 64, 1, math.MaxInt, api.OK)
	led(t, 64, most(), 63, 1, math.MaxInt/2, api.OK)
	led(t, 64, append(most(), [2]int{64, 1}), 64, 1, 0, api.ErrOver)
	led(t, 64, append(of(64, 1), most()...), 64, 1, 0, api.ErrOver)
	led(t, 64, append(most(), [2]int{2, 1}), 64, 1, 0, api.ErrOver)
	led(t, 64, append(most(), [2]int{64, 2}), 64, 1, 0, api.ErrOver)
	led(t, 64, append(most(), [2]int{64, 2}), 64, 2, math.MaxInt/2+2, api.OK)
	for _, often := range []int{3, 4} {
		led(t, 64, chain(64, often), 64, 1, 0, api.ErrOver)
		led(t, 64, chain(64, often), 2, 1, often, api.OK)
		led(t, 64, chain(64, often), 64, 64, 1, api.OK)
		led(t, 64, chain(64, often), 1, 64, 0, api.OK)
		led(t, 64, chain(64, often), 64, 62, often*often, api.OK)
	}
}

// Gr2: too many ways that lead elsewhere, or come from elsewhere, are none of those that are asked for.
func TestGr2WaysElsewhere(t *testing.T) {
	// From 63 too many ways lead to 1; one leads to 64, and none from 64 on.
	l := append(chain(63, 4), of(63, 64)...)
	led(t, 64, l, 63, 64, 1, api.OK)
	led(t, 64, l, 64, 1, 0, api.OK)
	led(t, 64, l, 63, 1, 0, api.ErrOver)
	// From 64 one way leads to 1, and none to those from which too many do.
	l = append(chain(63, 4), of(64, 1)...)
	led(t, 64, l, 64, 1, 1, api.OK)
	led(t, 64, l, 64, 63, 0, api.OK)
	// From 64 one way leads to 60; from there too many lead on.
	l = append(chain(60, 4), of(64, 60)...)
	led(t, 64, l, 64, 60, 1, api.OK)
	led(t, 64, l, 64, 61, 0, api.OK)
	led(t, 64, l, 64, 1, 0, api.ErrOver)
	// Too many lead from 64 to 32, and none from there to 1.
	l = slices.DeleteFunc(chain(64, 4), func(x [2]int) bool { return x[0] == 32 })
	led(t, 64, l, 64, 1, 0, api.OK)
	led(t, 64, l, 64, 32, 0, api.ErrOver)
	led(t, 64, l, 31, 1, 1<<60, api.OK)
}

// Gr2: the longest chain, either way, and all needs that there may be.
func TestGr2Long(t *testing.T) {
	down := upTo(64)
	for k := range down {
		down[k] = k
	}
	for _, often := range []int{1, 4} {
		l := chain(64, often)
		ordered(t, 64, l, upTo(64), api.OK)
		dug(t, 64, l, down, api.OK)
		under(t, 64, l, 64, upTo(63), api.OK)
		for k, x := range l {
			l[k] = [2]int{x[1], x[0]}
		}
		turned := upTo(64)
		slices.Reverse(turned)
		ordered(t, 64, l, turned, api.OK)
		for k := range turned {
			turned[k]--
		}
		dug(t, 64, l, turned, api.OK)
		under(t, 64, l, 1, upTo(64)[1:], api.OK)
		under(t, 64, l, 64, nil, api.OK)
	}
}

// Gr1, Gr2: all lists of up to four needs of up to three nodes, and of numbers that are none; against another hand.
func TestGr2Small(t *testing.T) {
	for n := range 4 {
		var pairs [][2]int
		for a := 0; a <= n+1; a++ {
			for b := 0; b <= n+1; b++ {
				if a > 0 && a <= n && b > 0 && b <= n || a*b == 0 && a+b == 1 || a+b == n+2 {
					pairs = append(pairs, [2]int{a, b})
				}
			}
		}
		var nodes []int
		for a := -1; a <= n+1; a++ {
			nodes = append(nodes, a)
		}
		var more func(l [][2]int)
		more = func(l [][2]int) {
			held(t, n, l, nodes)
			if len(l) == 4 || !may(n, l) && len(l) > 1 {
				return
			}
			for _, x := range pairs {
				more(append(slices.Clone(l), x))
			}
		}
		more(nil)
	}
}

// Gr2: all graphs of four nodes with each need at most once; against another hand.
func TestGr2Four(t *testing.T) {
	for bits := range 1 << 16 {
		var l [][2]int
		for k := range 16 {
			if bits>>k&1 == 1 {
				l = append(l, [2]int{k/4 + 1, k%4 + 1})
			}
		}
		// Of those that lead round by one need alone a few are enough.
		if slices.ContainsFunc(l, func(x [2]int) bool { return x[0] == x[1] }) && bits%16 != 1 {
			continue
		}
		held(t, 4, l, []int{1, 2, 3, 4})
	}
}

// chosen is a graph by chance: if it is not to lead round, each need leads down in a row of all nodes by chance.
func chosen(r *rand.Rand, most int, round bool) (int, [][2]int) {
	n := 1 + r.IntN(most)
	row := r.Perm(n)
	var l [][2]int
	for range r.IntN(1 + min(256, r.IntN(1+6*n))) {
		a, b := r.IntN(n), r.IntN(n)
		if !round && a == b {
			continue
		}
		if !round && a < b {
			a, b = b, a
		}
		l = append(l, [2]int{row[a] + 1, row[b] + 1})
	}
	return n, l
}

// Gr1, Gr2: graphs by chance, small and great ones, against another hand.
func TestGr2Chance(t *testing.T) {
	r := chance()
	for k := range 4000 {
		n, l := chosen(r, 10, k%4 == 0)
		held(t, n, l, upTo(n))
	}
	for k := range 100 {
		n, l := chosen(r, 64, k%5 == 0)
		held(t, n, l, []int{1, n, 1 + r.IntN(n), 1 + r.IntN(n)})
	}
}

// Gr3: in an order each node stands once, behind all that it needs, and none that stands behind it might stand there; whoever needs stands deeper.
func TestGr3(t *testing.T) {
	r := chance()
	for range 3000 {
		n, l := chosen(r, 64, false)
		o, e := graph.Order(n, l)
		d, err := graph.Deep(n, l)
		if e != api.OK || err != api.OK || len(o) != n || len(d) != n {
			t.Fatalf("%d, %v: %v, %d, %v, %d", n, l, o, e, d, err)
		}
		if !slices.Equal(slices.Sorted(slices.Values(o)), upTo(n)) {
			t.Fatalf("%d, %v: not each one once: %v", n, l, o)
		}
		var place [65]int
		for k, node := range o {
			place[node] = k
		}
		for _, x := range l {
			if place[x[0]] <= place[x[1]] || d[x[0]-1] <= d[x[1]-1] {
				t.Fatalf("%d, %v: %v needs, but %v, %v", n, l, x, o, d)
			}
		}
		for k, node := range o {
			first := !slices.ContainsFunc(o[k:], func(a int) bool {
				return a < node && !slices.ContainsFunc(l, func(x [2]int) bool { return x[0] == a && place[x[1]] >= k })
			})
			if !first {
				t.Fatalf("%d, %v: a lesser one than %d may stand there: %v", n, l, node, o)
			}
		}
	}
}

// Gr3: what stands below stands ahead and less deep, and to it lead ways.
func TestGr3Below(t *testing.T) {
	r := chance()
	for range 100 {
		n, l := chosen(r, 12, false)
		o, _ := graph.Order(n, l)
		d, _ := graph.Deep(n, l)
		for a := 1; a <= n; a++ {
			under, e := graph.Below(n, l, a)
			for b := 1; b <= n; b++ {
				m, err := graph.Ways(n, l, a, b)
				there := slices.Contains(under, b)
				if e != api.OK || err != api.OK || there && a == b || there != (a != b && m > 0) {
					t.Fatalf("%d, %v, %d to %d: %v, %d, %d, %d", n, l, a, b, under, e, m, err)
				}
				if there && (slices.Index(o, b) >= slices.Index(o, a) || d[b-1] >= d[a-1]) {
					t.Fatalf("%d, %v: %d stands below %d: %v, %v", n, l, b, a, o, d)
				}
			}
			if (d[a-1] == 0) != (len(under) == 0) {
				t.Fatalf("%d, %v, %d: %v, %v", n, l, a, d, under)
			}
		}
	}
}

// R3: needs are not changed, nor what lies behind their end, and that is not read.
func TestNeedsAreLeft(t *testing.T) {
	wide := of(4, 2, 4, 3, 2, 1, 3, 1, 5, 4, 1, 1, 0, 9, -1, 5, 1, 5)
	ahead := slices.Clone(wide)
	for long := range len(wide) + 1 {
		narrow := slices.Clone(wide[:long])
		held(t, 5, wide[:long], []int{0, 1, 4, 5, 6})
		held(t, 5, narrow[:long:long], []int{0, 1, 4, 5, 6})
		if !slices.Equal(wide, ahead) || !slices.Equal(narrow, ahead[:long]) {
			t.Fatalf("behind the calls there is %v, %v", wide, narrow)
		}
	}
	many := times(of(2, 1), 260)
	ordered(t, 2, many[:256], []int{1, 2}, api.OK)
	if !slices.Equal(many, times(of(2, 1), 260)) {
		t.Errorf("behind the call there is %v", many)
	}
}

// R3, R4: answers are new memory, and asked again they are the same; nil and the empty list are.
func TestAnswersAreNew(t *testing.T) {
	l := of(3, 2, 2, 1)
	for range 2 {
		o, _ := graph.Order(3, l)
		d, _ := graph.Deep(3, l)
		b, _ := graph.Below(3, l, 3)
		again, _ := graph.Order(3, l)
		for _, x := range [][]int{o, d, b} {
			for k := range x {
				x[k] = 9
			}
			_ = append(x, 8)
		}
		if !slices.Equal(again, []int{1, 2, 3}) || !slices.Equal(l, of(3, 2, 2, 1)) {
			t.Fatalf("what is answered is shared: %v, %v", again, l)
		}
		dug(t, 3, l, []int{0, 1, 2}, api.OK)
		under(t, 3, l, 3, []int{1, 2}, api.OK)
	}
	held(t, 3, nil, []int{1, 2, 3})
	held(t, 3, [][2]int{}, []int{1, 2, 3})
}
