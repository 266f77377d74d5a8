package purse_test

import (
	"bottomry/api"
	"bottomry/purse"
	"cmp"
	"math"
	"math/big"
	"math/rand/v2"
	"slices"
	"testing"
)

const (
	most  = api.MaxMoney
	last  = api.MaxTime
	least = math.MinInt
)

// chance are numbers that are the same at each run.
func chance() *rand.Rand { return rand.New(rand.NewPCG(10, 30)) }

// of are accounts: an owner, its money, and so on.
func of(n ...int) []api.Account {
	var l []api.Account
	for k := 0; k+1 < len(n); k += 2 {
		l = append(l, api.Account{Owner: n[k], Money: n[k+1]})
	}
	return l
}

// pays are payments: from whom, to whom, how much, and so on.
func pays(n ...int) []api.Payment {
	var l []api.Payment
	for k := 0; k+2 < len(n); k += 3 {
		l = append(l, api.Payment{From: n[k], To: n[k+1], N: n[k+2]})
	}
	return l
}

// loaded is a purse with accounts: an owner, its money, and so on.
func loaded(t *testing.T, n ...int) *purse.Purse {
	t.Helper()
	p, e := purse.Load(of(n...))
	if e != api.OK || p == nil {
		t.Fatalf("Load(%v): %v, %d", of(n...), p, e)
	}
	return p
}

// holds looks at all that a purse tells: the accounts, by their owners, are to be all that it has.
func holds(t *testing.T, p *purse.Purse, n ...int) {
	t.Helper()
	has(t, p, of(n...))
}

// has is holds of a list.
func has(t *testing.T, p *purse.Purse, want []api.Account) {
	t.Helper()
	if l := p.List(); !slices.Equal(l, want) {
		t.Errorf("List: %v, want %v", l, want)
	}
	all := 0
	for _, a := range want {
		all += a.Money
		if n, e := p.Money(a.Owner); n != a.Money || e != api.OK {
			t.Errorf("Money(%d) = %d, %d, want %d", a.Owner, n, e, a.Money)
		}
	}
	if n := p.Total(); n != all {
		t.Errorf("Total: %d, want %d", n, all)
	}
	for _, owner := range owners {
		if slices.ContainsFunc(want, func(a api.Account) bool { return a.Owner == owner }) {
			continue
		}
		if n, e := p.Money(owner); n != 0 || e != api.ErrNone {
			t.Errorf("Money(%d) = %d, %d, want ErrNone", owner, n, e)
		}
	}
}

// answers looks at an answer, and at what the purse has then.
func answers(t *testing.T, what string, got, want api.Errno, p *purse.Purse, n ...int) {
	t.Helper()
	if got != want {
		t.Errorf("%s: %d, want %d", what, got, want)
	}
	holds(t, p, n...)
}

// owners are numbers at the edges of those of owners, good ones and wrong ones.
var owners = []int{
	least, least + 1, -last, -2, -1, 0, 1, 2, 3, 101, 1 << 20, 1<<20 + 1, 1 << 21, 1 << 32, 1<<32 + 1, last - 1, last, last + 1, most, 1 << 62, math.MaxInt,
}

// good tells whether a number may be an owner's.
func good(owner int) bool { return owner >= 0 && owner <= 1<<40 }

// sums are numbers of money at the edges, good ones and wrong ones.
var sums = []int{least, least + 1, -most - 1, -most, -2, -1, 0, 1, 2, 59, 60, 61, 1 << 32, most - 1, most, most + 1, 1 << 61, 1 << 62, math.MaxInt - 1, math.MaxInt}

// orders hands on the numbers below n in each order that there is.
func orders(n int, do func(order []int)) {
	var next func(order []int)
	next = func(order []int) {
		if len(order) == n {
			do(slices.Clone(order))
		}
		for i := range n {
			if !slices.Contains(order, i) {
				next(append(slices.Clone(order), i))
			}
		}
	}
	next(nil)
}

// Pu1: a zero purse has no accounts, and may be used.
func TestPu1Zero(t *testing.T) {
	for _, p := range []*purse.Purse{{}, new(purse.Purse)} {
		holds(t, p)
		answers(t, "Give", p.Give(0, 0), api.ErrNone, p)
		answers(t, "Take", p.Take(0, 0), api.ErrNone, p)
		answers(t, "Move", p.Move(0, 0, 0), api.ErrNone, p)
		if n, e := p.Moves(nil); n != 0 || e != api.OK {
			t.Error("Moves of none", n, e)
		}
		if n, e := p.Moves(pays(0, 0, 0)); n != 0 || e != api.ErrNone {
			t.Error("Moves", n, e)
		}
		holds(t, p.Clone())
		answers(t, "Open", p.Open(4), api.OK, p, 4, 0)
		answers(t, "Give", p.Give(4, 9), api.OK, p, 4, 9)
	}
	for _, l := range [][]api.Account{nil, {}} {
		p, e := purse.Load(l)
		if p == nil || e != api.OK {
			t.Fatal("Load of none", p, e)
		}
		holds(t, p)
		answers(t, "Open", p.Open(0), api.OK, p, 0, 0)
	}
}

// Pu1: the accounts that are loaded are there, by their owners, in whatever order they are handed in.
func TestPu1Load(t *testing.T) {
	l := of(0, 5, 1, 0, 7, 50, 101, 1, 1<<20+3, 0, last, 44)
	orders(len(l), func(order []int) {
		var in []api.Account
		for _, i := range order {
			in = append(in, l[i])
		}
		ahead := slices.Clone(in)
		p, e := purse.Load(in)
		if e != api.OK {
			t.Fatal(in, e)
		}
		has(t, p, l)
		if !slices.Equal(in, ahead) {
			t.Errorf("what was handed in was changed: %v, ahead %v", in, ahead)
		}
	})
}

// Pu1: each owner and each money at the edges, alone: told in the chapter's words.
func TestPu1LoadEdges(t *testing.T) {
	for _, owner := range owners {
		for _, n := range sums {
			p, e := purse.Load(of(owner, n))
			if owner < 0 || owner > 1<<40 || n < 0 || n > 1<<60 {
				if p != nil || e != api.ErrArg {
					t.Errorf("Load of %d, %d: %v, %d, want ErrArg", owner, n, p, e)
				}
				continue
			}
			if e != api.OK {
				t.Fatalf("Load of %d, %d: %d", owner, n, e)
			}
			holds(t, p, owner, n)
		}
	}
}

// Pu1: one wrong account is enough, wherever it stands.
func TestPu1LoadArg(t *testing.T) {
	l := of(0, 5, 3, 0, 7, 50, last, 1)
	wrong := of(-1, 1, last+1, 1, least, 0, math.MaxInt, 0, 9, -1, 9, most+1, 9, least, 9, math.MaxInt,
		0, 5, 0, 0, 3, 0, 3, 1, 7, 50, 7, 49, 7, 0, last, 1, last, 2)
	for _, a := range wrong {
		for i := range len(l) + 1 {
			in := slices.Insert(slices.Clone(l), i, a)
			if p, e := purse.Load(in); p != nil || e != api.ErrArg {
				t.Errorf("Load(%v): %v, %d, want ErrArg", in, p, e)
			}
		}
	}
}

// Pu1: all may have MaxMoney together, and not one more; a sum that would go round is too much as well.
func TestPu1LoadOver(t *testing.T) {
	for _, l := range [][]api.Account{
		of(1, most), of(1, most, 2, 0), of(1, 0, 2, most, 3, 0), of(1, most-1, 2, 1), of(1, most/2, 2, most/2), of(1, most/4, 2, most/4, 3, most/4, 4, most/4-1, 5, 1),
	} {
		p, e := purse.Load(l)
		if e != api.OK {
			t.Fatalf("Load(%v): %d", l, e)
		}
		has(t, p, l)
		if p.Total() != 1<<60 && p.Total() != 1<<60-1 {
			t.Errorf("Total of %v: %d", l, p.Total())
		}
	}
	over := [][]api.Account{
		of(1, most, 2, 1), of(1, 1, 2, most), of(1, most-1, 2, 2), of(1, most/2, 2, most/2, 3, 1), of(1, most/2+1, 2, most/2), of(1, most, 2, 0, 3, 0, 4, 1), of(1, most, 2, most),
	}
	for _, many := range []int{2, 3, 7, 8, 9, 15, 16, 17, 31, 32, 33, 64} {
		var l []api.Account
		for i := range many {
			l = append(l, api.Account{Owner: i, Money: most})
		}
		over = append(over, l)
	}
	for _, l := range over {
		if p, e := purse.Load(l); p != nil || e != api.ErrOver {
			t.Errorf("Load(%v): %v, %d, want ErrOver", l, p, e)
		}
		// ErrArg is named first, wherever what it is about stands.
		for _, a := range of(-1, 0, last+1, 0, 77, -1, 77, most+1, 1, 0) {
			for i := range len(l) + 1 {
				in := slices.Insert(slices.Clone(l), i, a)
				if p, e := purse.Load(in); p != nil || e != api.ErrArg {
					t.Errorf("Load(%v): %v, %d, want ErrArg", in, p, e)
				}
			}
		}
	}
}

// Pu1: the list that is handed in is not kept, and not read behind its end.
func TestPu1LoadKeepsNoList(t *testing.T) {
	room := of(3, 30, 1, 10, 2, 20, 1, 99, -1, -1)
	ahead := slices.Clone(room)
	p, e := purse.Load(room[:3])
	if e != api.OK || !slices.Equal(room, ahead) {
		t.Fatal(e, room)
	}
	for i := range room {
		room[i] = api.Account{Owner: 8, Money: 8}
	}
	holds(t, p, 1, 10, 2, 20, 3, 30)
}

// Pu1: Open of each number at the edges: there is one account more, without money, or an error.
func TestPu1Open(t *testing.T) {
	for _, owner := range owners {
		p := loaded(t, 5, 50)
		if !good(owner) {
			answers(t, "Open", p.Open(owner), api.ErrArg, p, 5, 50)
			continue
		}
		want := of(owner, 0, 5, 50)
		slices.SortFunc(want, func(a, b api.Account) int { return cmp.Compare(a.Owner, b.Owner) })
		if e := p.Open(owner); e != api.OK {
			t.Errorf("Open(%d): %d", owner, e)
		}
		has(t, p, want)
		for range 2 {
			if e := p.Open(owner); e != api.ErrState {
				t.Errorf("Open(%d) again: %d", owner, e)
			}
			has(t, p, want)
		}
	}
}

// Pu1: an account that is there is not opened again, with money or without; a full purse may have more accounts.
func TestPu1OpenThere(t *testing.T) {
	p := loaded(t, 0, 0, 3, most, 9, 0)
	for _, owner := range []int{0, 3, 9} {
		answers(t, "Open", p.Open(owner), api.ErrState, p, 0, 0, 3, most, 9, 0)
	}
	answers(t, "Open", p.Open(2), api.OK, p, 0, 0, 2, 0, 3, most, 9, 0)
}

// Pu1: accounts may be opened in whatever order.
func TestPu1OpenOrder(t *testing.T) {
	orders(5, func(order []int) {
		p := new(purse.Purse)
		for _, i := range order {
			if e := p.Open(i * 10); e != api.OK {
				t.Error(order, i, e)
			}
		}
		holds(t, p, 0, 0, 10, 0, 20, 0, 30, 0, 40, 0)
	})
}

// Pu1: what is told is new memory: who changes it changes no purse, and no other list.
func TestPu1ListIsNew(t *testing.T) {
	p := loaded(t, 1, 10, 2, 20)
	l, m := p.List(), p.List()
	l[0] = api.Account{Owner: 7, Money: 77}
	_ = append(l[:1], api.Account{Owner: 8, Money: 88})
	if !slices.Equal(m, of(1, 10, 2, 20)) {
		t.Error(m)
	}
	holds(t, p, 1, 10, 2, 20)
	m = p.List()
	p.Give(1, 5)
	p.Open(0)
	if !slices.Equal(m, of(1, 10, 2, 20)) {
		t.Error(m)
	}
}

// changes are calls that change a purse with the accounts 1, 2 and 3, each of which has something.
func changes() map[string]func(p *purse.Purse) {
	return map[string]func(p *purse.Purse){
		"Open":  func(p *purse.Purse) { p.Open(4) },
		"ahead": func(p *purse.Purse) { p.Open(0) },
		"Give":  func(p *purse.Purse) { p.Give(2, 5) },
		"Take":  func(p *purse.Purse) { p.Take(3, 5) },
		"Move":  func(p *purse.Purse) { p.Move(1, 3, 4) },
		"Moves": func(p *purse.Purse) { p.Moves(pays(1, 3, 5, 3, 2, 30)) },
	}
}

// Pu1: a clone has the same, and what is done to one is not done to the other.
func TestPu1Clone(t *testing.T) {
	for what, change := range changes() {
		p := loaded(t, 1, 10, 2, 20, 3, 30)
		q := p.Clone()
		holds(t, q, 1, 10, 2, 20, 3, 30)
		change(q)
		holds(t, p, 1, 10, 2, 20, 3, 30)
		changed := q.List()
		if slices.Equal(changed, p.List()) {
			t.Errorf("%s: nothing was changed", what)
		}
		r := p.Clone()
		change(p)
		has(t, p, changed)
		has(t, q, changed)
		holds(t, r, 1, 10, 2, 20, 3, 30)
		for other, more := range changes() {
			s := q.Clone()
			more(s)
			has(t, q, changed)
			if other != what && slices.Equal(s.List(), changed) {
				t.Errorf("%s behind %s: nothing was changed", other, what)
			}
		}
	}
}

// Pu1: two that have the same open other accounts in the same place: neither has the other one's.
func TestPu1CloneSamePlace(t *testing.T) {
	for many := range 40 {
		p := new(purse.Purse)
		var l []api.Account
		for i := range many {
			p.Open(i)
			l = append(l, api.Account{Owner: i})
		}
		q := p.Clone()
		p.Open(100)
		q.Open(101)
		p.Give(100, 1)
		q.Give(101, 2)
		has(t, p, append(slices.Clone(l), of(100, 1)...))
		has(t, q, append(slices.Clone(l), of(101, 2)...))
	}
}

// Pu1: a nil purse: ErrArg, whatever is asked for, nothing, 0; its clone has no accounts.
func TestPu1Nil(t *testing.T) {
	var p *purse.Purse
	for _, owner := range owners {
		for _, n := range sums {
			for what, e := range map[string]api.Errno{"Open": p.Open(owner), "Give": p.Give(owner, n), "Take": p.Take(owner, n), "Move": p.Move(owner, 1, n), "Move to": p.Move(1, owner, n)} {
				if e != api.ErrArg {
					t.Errorf("%s of %d, %d: %d", what, owner, n, e)
				}
			}
			if i, e := p.Moves(pays(1, 1, 0, owner, 1, n)); i != 0 || e != api.ErrArg {
				t.Error("Moves", i, e)
			}
		}
		if n, e := p.Money(owner); n != 0 || e != api.ErrArg {
			t.Error("Money", n, e)
		}
	}
	if i, e := p.Moves(nil); i != 0 || e != api.ErrArg {
		t.Error("Moves of none", i, e)
	}
	if l := p.List(); len(l) != 0 || p.Total() != 0 {
		t.Error(l, p.Total())
	}
	q := p.Clone()
	if q == nil {
		t.Fatal("Clone: nil")
	}
	holds(t, q)
	answers(t, "Open", q.Open(1), api.OK, q, 1, 0)
	holds(t, p.Clone())
}

// Pu2: Give adds, up to MaxMoney of all together.
func TestPu2Give(t *testing.T) {
	p := loaded(t, 0, 0, 3, 10, last, 50)
	answers(t, "0", p.Give(3, 0), api.OK, p, 0, 0, 3, 10, last, 50)
	answers(t, "1", p.Give(3, 1), api.OK, p, 0, 0, 3, 11, last, 50)
	answers(t, "to the sink", p.Give(0, 7), api.OK, p, 0, 7, 3, 11, last, 50)
	answers(t, "to the last one", p.Give(last, 50), api.OK, p, 0, 7, 3, 11, last, 100)
	answers(t, "one too much", p.Give(3, most-117), api.ErrOver, p, 0, 7, 3, 11, last, 100)
	answers(t, "all", p.Give(3, most-118), api.OK, p, 0, 7, 3, most-107, last, 100)
	for _, owner := range []int{0, 3, last} {
		answers(t, "nothing, of a full purse", p.Give(owner, 0), api.OK, p, 0, 7, 3, most-107, last, 100)
		answers(t, "1, of a full purse", p.Give(owner, 1), api.ErrOver, p, 0, 7, 3, most-107, last, 100)
		answers(t, "the most", p.Give(owner, math.MaxInt), api.ErrOver, p, 0, 7, 3, most-107, last, 100)
	}
}

// Pu2: Give at all edges, told in the chapter's words.
func TestPu2GiveEdges(t *testing.T) {
	for _, a := range []int{0, 1, 60, most - 61, most - 60} {
		for _, owner := range owners {
			for _, n := range sums {
				p := loaded(t, 3, a, 5, 60)
				want := api.OK
				switch {
				case owner != 3:
					want = api.ErrNone
				case n < 0:
					want = api.ErrArg
				case n > 1<<60-60-a:
					want = api.ErrOver
				}
				if want != api.OK {
					answers(t, "Give", p.Give(owner, n), want, p, 3, a, 5, 60)
					continue
				}
				answers(t, "Give", p.Give(owner, n), want, p, 3, a+n, 5, 60)
			}
		}
	}
}

// Pu2: Take takes, down to nothing.
func TestPu2Take(t *testing.T) {
	p := loaded(t, 0, 5, 3, 10, last, 50)
	answers(t, "0", p.Take(3, 0), api.OK, p, 0, 5, 3, 10, last, 50)
	answers(t, "1", p.Take(3, 1), api.OK, p, 0, 5, 3, 9, last, 50)
	answers(t, "one too much", p.Take(3, 10), api.ErrFunds, p, 0, 5, 3, 9, last, 50)
	answers(t, "all", p.Take(3, 9), api.OK, p, 0, 5, 3, 0, last, 50)
	answers(t, "nothing, of nothing", p.Take(3, 0), api.OK, p, 0, 5, 3, 0, last, 50)
	answers(t, "1, of nothing", p.Take(3, 1), api.ErrFunds, p, 0, 5, 3, 0, last, 50)
	answers(t, "of the sink", p.Take(0, 5), api.OK, p, 0, 0, 3, 0, last, 50)
	answers(t, "of the last one", p.Take(last, 49), api.OK, p, 0, 0, 3, 0, last, 1)
	answers(t, "more than it has, less than all have", p.Take(3, 1), api.ErrFunds, p, 0, 0, 3, 0, last, 1)
}

// Pu2: Take at all edges, told in the chapter's words.
func TestPu2TakeEdges(t *testing.T) {
	for _, a := range []int{0, 1, 60, most - 61, most - 60} {
		for _, owner := range owners {
			for _, n := range sums {
				p := loaded(t, 3, a, 5, 60)
				want := api.OK
				switch {
				case owner != 3:
					want = api.ErrNone
				case n < 0:
					want = api.ErrArg
				case n > a:
					want = api.ErrFunds
				}
				if want != api.OK {
					answers(t, "Take", p.Take(owner, n), want, p, 3, a, 5, 60)
					continue
				}
				answers(t, "Take", p.Take(owner, n), want, p, 3, a-n, 5, 60)
			}
		}
	}
}

// Pu2, the chapter's example: Move of more than there is is ErrFunds.
func TestPu2Move(t *testing.T) {
	p := loaded(t, 0, 5, 3, 10, last, 50)
	answers(t, "more than there is", p.Move(3, 0, 11), api.ErrFunds, p, 0, 5, 3, 10, last, 50)
	answers(t, "more than there is, to itself", p.Move(3, 3, 11), api.ErrFunds, p, 0, 5, 3, 10, last, 50)
	answers(t, "some", p.Move(3, 0, 4), api.OK, p, 0, 9, 3, 6, last, 50)
	answers(t, "all", p.Move(3, last, 6), api.OK, p, 0, 9, 3, 0, last, 56)
	answers(t, "nothing, of nothing", p.Move(3, 0, 0), api.OK, p, 0, 9, 3, 0, last, 56)
	answers(t, "1, of nothing", p.Move(3, 0, 1), api.ErrFunds, p, 0, 9, 3, 0, last, 56)
	answers(t, "all to itself", p.Move(last, last, 56), api.OK, p, 0, 9, 3, 0, last, 56)
	answers(t, "back", p.Move(last, 3, 1), api.OK, p, 0, 9, 3, 1, last, 55)
	answers(t, "of none", p.Move(1, 3, 0), api.ErrNone, p, 0, 9, 3, 1, last, 55)
	answers(t, "to none", p.Move(3, 1, 0), api.ErrNone, p, 0, 9, 3, 1, last, 55)
	answers(t, "of none, to it", p.Move(1, 1, 0), api.ErrNone, p, 0, 9, 3, 1, last, 55)
	answers(t, "less than nothing", p.Move(0, 3, -1), api.ErrArg, p, 0, 9, 3, 1, last, 55)
	answers(t, "less than nothing, to itself", p.Move(0, 0, -1), api.ErrArg, p, 0, 9, 3, 1, last, 55)
}

// Pu2: Move at all edges, told in the chapter's words; also of a full purse, in which nothing may be put.
func TestPu2MoveEdges(t *testing.T) {
	for _, a := range []int{0, 1, 60, most - 61, most - 60} {
		for _, from := range owners {
			for _, to := range owners {
				for _, n := range sums {
					moves(t, from, to, n, 1, a, 2, 60)
				}
			}
		}
	}
}

// moves looks at one move between the two accounts of a purse, whose first one has a, the second one b.
func moves(t *testing.T, from, to, n, one, a, two, b int) {
	t.Helper()
	p := loaded(t, one, a, two, b)
	money := map[int]int{one: a, two: b}
	want := api.OK
	_, gives := money[from]
	_, takes := money[to]
	switch {
	case !gives || !takes:
		want = api.ErrNone
	case n < 0:
		want = api.ErrArg
	case n > money[from]:
		want = api.ErrFunds
	default:
		money[from] -= n
		money[to] += n
	}
	e := p.Move(from, to, n)
	l := p.List()
	if e != want || !slices.Equal(l, of(one, money[one], two, money[two])) || p.Total() != a+b {
		t.Errorf("Move(%d, %d, %d) of %d, %d: %d, %v, want %d, %v", from, to, n, a, b, e, l, want, money)
	}
}

// Pu2: Moves does all, in order: what an account was given it may give.
func TestPu2Moves(t *testing.T) {
	for _, x := range []struct {
		l    []api.Payment
		want []api.Account
	}{
		{nil, of(1, 10, 2, 0, 3, 30)},
		{pays(), of(1, 10, 2, 0, 3, 30)},
		{pays(1, 2, 10), of(1, 0, 2, 10, 3, 30)},
		{pays(1, 2, 10, 2, 3, 10), of(1, 0, 2, 0, 3, 40)},
		{pays(1, 2, 10, 2, 1, 10, 1, 2, 10, 2, 1, 10), of(1, 10, 2, 0, 3, 30)},
		{pays(3, 1, 30, 1, 2, 40, 2, 3, 25), of(1, 0, 2, 15, 3, 25)},
		{pays(3, 3, 30, 1, 1, 0, 2, 2, 0), of(1, 10, 2, 0, 3, 30)},
		{pays(1, 2, 3, 1, 2, 3, 1, 2, 3, 1, 2, 1), of(1, 0, 2, 10, 3, 30)},
	} {
		p := loaded(t, 1, 10, 2, 0, 3, 30)
		ahead, q := slices.Clone(x.l), p.Clone()
		if n, e := p.Moves(x.l); n != len(x.l) || e != api.OK {
			t.Errorf("Moves(%v): %d, %d", x.l, n, e)
		}
		has(t, p, x.want)
		holds(t, q, 1, 10, 2, 0, 3, 30)
		if !slices.Equal(x.l, ahead) {
			t.Errorf("what was handed in was changed: %v, ahead %v", x.l, ahead)
		}
	}
}

// Pu2: if one is refused, none is done: its number, wherever it stands, and its error.
func TestPu2MovesRefused(t *testing.T) {
	fine := pays(1, 2, 10, 2, 3, 10, 3, 1, 40, 1, 1, 40, 1, 2, 1)
	for _, x := range []struct {
		pay  api.Payment
		want api.Errno
	}{
		{api.Payment{From: 4, To: 1, N: 0}, api.ErrNone},
		{api.Payment{From: 1, To: 4, N: -1}, api.ErrNone},
		{api.Payment{From: -1, To: last + 1, N: math.MaxInt}, api.ErrNone},
		{api.Payment{From: 1, To: 2, N: -1}, api.ErrArg},
		{api.Payment{From: 3, To: 3, N: least}, api.ErrArg},
		{api.Payment{From: 1, To: 2, N: 41}, api.ErrFunds},
		{api.Payment{From: 2, To: 2, N: math.MaxInt}, api.ErrFunds},
	} {
		for i := range len(fine) + 1 {
			p := loaded(t, 1, 10, 2, 0, 3, 30)
			l := slices.Insert(slices.Clone(fine), i, x.pay)
			if n, e := p.Moves(l); n != i || e != x.want {
				t.Errorf("Moves(%v): %d, %d, want %d, %d", l, n, e, i, x.want)
			}
			holds(t, p, 1, 10, 2, 0, 3, 30)
			// What is refused ahead of another one tells, whatever is behind it.
			for _, behind := range pays(1, 2, -1, 9, 9, 0, 1, 2, 50) {
				if n, e := p.Moves(append(slices.Clone(l), behind)); n != i || e != x.want {
					t.Errorf("Moves(%v, %v): %d, %d, want %d, %d", l, behind, n, e, i, x.want)
				}
			}
			holds(t, p, 1, 10, 2, 0, 3, 30)
			if n, e := p.Moves(fine); n != len(fine) || e != api.OK {
				t.Errorf("Moves(%v) behind: %d, %d", fine, n, e)
			}
			holds(t, p, 1, 39, 2, 1, 3, 0)
		}
	}
}

// Pu2: each is held against what those ahead of it left: what would do alone may be refused.
func TestPu2MovesInOrder(t *testing.T) {
	p := loaded(t, 1, 10, 2, 0, 3, 0)
	for _, x := range []struct {
		l []api.Payment
		n int
	}{
		{pays(1, 2, 10, 1, 3, 1), 1}, {pays(1, 2, 5, 1, 3, 5, 1, 2, 1), 2}, {pays(2, 3, 10, 1, 2, 10), 0}, {pays(1, 2, 6, 1, 2, 6), 1}, {pays(1, 2, 10, 2, 3, 10, 2, 3, 1, 1, 4, 0), 2},
	} {
		if n, e := p.Moves(x.l); n != x.n || e != api.ErrFunds {
			t.Errorf("Moves(%v): %d, %d, want %d, ErrFunds", x.l, n, e, x.n)
		}
		holds(t, p, 1, 10, 2, 0, 3, 0)
	}
}

// Pu2: payments behind the list's end are not done, and not looked at.
func TestPu2MovesEnd(t *testing.T) {
	p := loaded(t, 1, 10, 2, 0)
	room := pays(1, 2, 3, 1, 2, 3, 9, 9, -9)
	ahead := slices.Clone(room)
	if n, e := p.Moves(room[:1]); n != 1 || e != api.OK || !slices.Equal(room, ahead) {
		t.Error(n, e, room)
	}
	holds(t, p, 1, 7, 2, 3)
}

// Pu2: many payments, of a full purse too.
func TestPu2MovesMany(t *testing.T) {
	p := loaded(t, 1, most, 2, 0)
	var l []api.Payment
	for range 500 {
		l = append(l, pays(1, 2, most, 2, 1, most)...)
	}
	if n, e := p.Moves(l); n != 1000 || e != api.OK {
		t.Error(n, e)
	}
	holds(t, p, 1, most, 2, 0)
	if n, e := p.Moves(append(l, api.Payment{From: 2, To: 1, N: 1})); n != 1000 || e != api.ErrFunds {
		t.Error(n, e)
	}
	holds(t, p, 1, most, 2, 0)
}

// other is a purse by another hand: a list of accounts that is gone through, with numbers without bounds.
type other struct {
	owners []int
	money  []*big.Int
}

// at is where an owner stands; -1, if it is not there.
func (o *other) at(owner int) int { return slices.Index(o.owners, owner) }

// total is how much all have.
func (o *other) total() *big.Int {
	all := new(big.Int)
	for _, n := range o.money {
		all.Add(all, n)
	}
	return all
}

// list are all accounts, by their owners.
func (o *other) list() []api.Account {
	var l []api.Account
	for i, owner := range o.owners {
		l = append(l, api.Account{Owner: owner, Money: int(o.money[i].Int64())})
	}
	slices.SortFunc(l, func(a, b api.Account) int { return cmp.Compare(a.Owner, b.Owner) })
	return l
}

// clone is one with the same.
func (o *other) clone() *other {
	c := &other{owners: slices.Clone(o.owners)}
	for _, n := range o.money {
		c.money = append(c.money, new(big.Int).Set(n))
	}
	return c
}

func (o *other) open(owner int) api.Errno {
	if !good(owner) {
		return api.ErrArg
	}
	if o.at(owner) >= 0 {
		return api.ErrState
	}
	o.owners, o.money = append(o.owners, owner), append(o.money, new(big.Int))
	return api.OK
}

func (o *other) give(owner, n int) api.Errno {
	i := o.at(owner)
	if i < 0 {
		return api.ErrNone
	}
	if n < 0 {
		return api.ErrArg
	}
	more := big.NewInt(int64(n))
	if new(big.Int).Add(o.total(), more).Cmp(big.NewInt(1<<60)) > 0 {
		return api.ErrOver
	}
	o.money[i].Add(o.money[i], more)
	return api.OK
}

func (o *other) take(owner, n int) api.Errno {
	i := o.at(owner)
	if i < 0 {
		return api.ErrNone
	}
	if n < 0 {
		return api.ErrArg
	}
	left := new(big.Int).Sub(o.money[i], big.NewInt(int64(n)))
	if left.Sign() < 0 {
		return api.ErrFunds
	}
	o.money[i] = left
	return api.OK
}

func (o *other) move(from, to, n int) api.Errno {
	if o.at(from) < 0 || o.at(to) < 0 {
		return api.ErrNone
	}
	if e := o.take(from, n); e != api.OK {
		return e
	}
	i := o.at(to)
	o.money[i] = new(big.Int).Add(o.money[i], big.NewInt(int64(n)))
	return api.OK
}

// payAll does payments, and takes those back that were done, the last one first, if one is refused.
func (o *other) payAll(l []api.Payment) (int, api.Errno) {
	for i, x := range l {
		e := o.move(x.From, x.To, x.N)
		if e == api.OK {
			continue
		}
		for k := i - 1; k >= 0; k-- {
			o.move(l[k].To, l[k].From, l[k].N)
		}
		return i, e
	}
	return len(l), api.OK
}

// someone is an owner by chance, mostly one of a few.
func someone(r *rand.Rand) int {
	if r.IntN(12) == 0 {
		return owners[r.IntN(len(owners))]
	}
	return r.IntN(6)
}

// amount is a number by chance: at the edges, of any length, or about what an owner has.
func amount(r *rand.Rand, o *other) int {
	switch r.IntN(4) {
	case 0:
		return sums[r.IntN(len(sums))]
	case 1:
		return r.IntN(1 << r.IntN(62))
	case 2:
		return max(0, int(o.total().Int64())+r.IntN(3)-1)
	}
	if len(o.money) == 0 {
		return r.IntN(9)
	}
	return int(o.money[r.IntN(len(o.money))].Int64()) + r.IntN(5) - 2
}

// payments are up to five payments by chance.
func payments(r *rand.Rand, o *other) []api.Payment {
	var l []api.Payment
	for range r.IntN(6) {
		n := amount(r, o)
		if n > 0 && r.IntN(2) == 0 {
			n /= 1 + r.IntN(5)
		}
		l = append(l, api.Payment{From: someone(r), To: someone(r), N: n})
	}
	return l
}

// call does one call by chance to both: its name, and what each answers.
func call(r *rand.Rand, p *purse.Purse, o *other) (what string, got, want api.Errno, n, m int) {
	owner, to, sum := someone(r), someone(r), amount(r, o)
	switch r.IntN(6) {
	case 0:
		return "Open", p.Open(owner), o.open(owner), 0, 0
	case 1:
		return "Give", p.Give(owner, sum), o.give(owner, sum), 0, 0
	case 2:
		return "Take", p.Take(owner, sum), o.take(owner, sum), 0, 0
	case 3:
		return "Move", p.Move(owner, to, sum), o.move(owner, to, sum), 0, 0
	}
	l := payments(r, o)
	n, got = p.Moves(l)
	m, want = o.payAll(l)
	return "Moves", got, want, n, m
}

// Pu3: calls by chance answer what another hand's purse answers; what is moved changes no total, what is refused nothing.
func TestPu3Chance(t *testing.T) {
	r := chance()
	told := map[string]map[api.Errno]int{}
	for range 300 {
		p, o := new(purse.Purse), new(other)
		for range 120 {
			ahead, all := p.List(), p.Total()
			kept, keptToo := p.Clone(), o.clone()
			what, got, want, n, m := call(r, p, o)
			if got != want || n != m {
				t.Fatalf("%s of %v: %d, %d, want %d, %d", what, ahead, n, got, m, want)
			}
			if told[what] == nil {
				told[what] = map[api.Errno]int{}
			}
			told[what][got]++
			has(t, p, o.list())
			if (what == "Move" || what == "Moves" || what == "Open") && p.Total() != all {
				t.Fatalf("%s of %v: the total is %d, ahead %d", what, ahead, p.Total(), all)
			}
			if got != api.OK && !slices.Equal(p.List(), ahead) {
				t.Fatalf("%s was refused: %v, ahead %v", what, p.List(), ahead)
			}
			has(t, kept, ahead)
			// Now and then the clone goes on.
			if r.IntN(10) == 0 {
				p, o = kept, keptToo
			}
			if t.Failed() {
				t.Fatalf("behind %s of %v", what, ahead)
			}
		}
		again(t, r, p)
	}
	for what, l := range map[string][]api.Errno{
		"Open": {api.OK, api.ErrArg, api.ErrState}, "Give": {api.OK, api.ErrNone, api.ErrArg, api.ErrOver}, "Take": {api.OK, api.ErrNone, api.ErrArg, api.ErrFunds},
		"Move": {api.OK, api.ErrNone, api.ErrArg, api.ErrFunds}, "Moves": {api.OK, api.ErrNone, api.ErrArg, api.ErrFunds},
	} {
		for _, e := range l {
			if told[what][e] < 20 {
				t.Errorf("%s answered %d %d times alone", what, e, told[what][e])
			}
		}
	}
}

// again loads what a purse has, in any order: the same is there again.
func again(t *testing.T, r *rand.Rand, p *purse.Purse) {
	t.Helper()
	l := p.List()
	r.Shuffle(len(l), func(i, j int) { l[i], l[j] = l[j], l[i] })
	q, e := purse.Load(l)
	if e != api.OK {
		t.Fatal(l, e)
	}
	has(t, q, p.List())
}

// Pu3: all rows of three calls, of few numbers, leave the total as what was given and taken says, and are as another hand's.
func TestPu3Rows(t *testing.T) {
	calls := []func(p *purse.Purse, o *other) (api.Errno, api.Errno){}
	for _, owner := range []int{-1, 1, 2} {
		calls = append(calls, func(p *purse.Purse, o *other) (api.Errno, api.Errno) { return p.Open(owner), o.open(owner) })
		for _, n := range []int{-1, 1, most} {
			calls = append(calls, func(p *purse.Purse, o *other) (api.Errno, api.Errno) { return p.Give(owner, n), o.give(owner, n) })
			calls = append(calls, func(p *purse.Purse, o *other) (api.Errno, api.Errno) { return p.Take(owner, n), o.take(owner, n) })
			calls = append(calls, func(p *purse.Purse, o *other) (api.Errno, api.Errno) { return p.Move(owner, 2, n), o.move(owner, 2, n) })
		}
	}
	for i, first := range calls {
		for j, second := range calls {
			for k, third := range calls {
				p, o := new(purse.Purse), new(other)
				p.Open(2)
				o.open(2)
				p.Give(2, 1)
				o.give(2, 1)
				for _, call := range []func(p *purse.Purse, o *other) (api.Errno, api.Errno){first, second, third} {
					got, want := call(p, o)
					if got != want || !slices.Equal(p.List(), o.list()) || int64(p.Total()) != o.total().Int64() {
						t.Fatalf("the calls %d, %d, %d: %d, %v, want %d, %v", i, j, k, got, p.List(), want, o.list())
					}
				}
			}
		}
	}
}
