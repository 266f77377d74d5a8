package fee_test

import (
	"bottomry/api"
	"bottomry/fee"
	"math"
	"math/big"
	"math/rand/v2"
	"slices"
	"testing"
)

const (
	money = api.MaxMoney
	ages  = api.MaxTime
	least = math.MinInt
)

// chance are numbers that are the same at each run.
func chance() *rand.Rand { return rand.New(rand.NewPCG(9, 27)) }

// amount is a number of money by chance, of any length.
func amount(r *rand.Rand) int { return min(r.IntN(1<<r.IntN(62)), money) }

// sums are numbers of money at the edges, good ones and wrong ones.
var sums = []int{
	least, -money, -1, 0, 1, 2, 3, 99, 100, 101, 9999, 10000, 10001, 1 << 32, 922337203685477, 922337203685478,
	money/10000 - 1, money / 10000, money/10000 + 1, money / 3, money / 2, money - 1, money, money + 1, math.MaxInt - 1, math.MaxInt,
}

// rates are rates at the edges, good ones and wrong ones.
var rates = []int{least, -1, 0, 1, 2, 3, 100, 250, 3333, 5000, 9999, 10000, 10001, math.MaxInt}

// spans are times at the edges, good ones and wrong ones.
var spans = []int{least, -1, 0, 1, 2, 3, 9999, 10000, 10001, 1 << 20, ages - 1, ages, ages + 1, money, math.MaxInt}

// edges are fees at the edges, good ones and wrong ones.
func edges() []api.Fees {
	var l []api.Fees
	for _, n := range rates {
		for _, m := range rates {
			for _, floor := range []int{least, -1, 0, 1, 3, 10000, money - 1, money, money + 1, math.MaxInt} {
				l = append(l, api.Fees{Broker: n, Least: floor, Sales: m})
			}
		}
	}
	return l
}

// fees tells whether fees are some, in the chapter's words.
func fees(f api.Fees) bool {
	return f.Broker >= 0 && f.Broker <= 10000 && f.Sales >= 0 && f.Sales <= 10000 && f.Least >= 0 && f.Least <= 1<<60
}

// parts is n times rate by 10000, rounded, by numbers without bounds.
func parts(n, rate int, up bool) int {
	whole, rest := shared(n, rate, 10000)
	if up && rest.Sign() > 0 {
		whole++
	}
	return whole
}

// shared is n times m by all rounded down, and what is left then, by numbers without bounds.
func shared(n, m, all int) (int, *big.Int) {
	product := new(big.Int).Mul(big.NewInt(int64(n)), big.NewInt(int64(m)))
	whole, rest := product.DivMod(product, big.NewInt(int64(all)), new(big.Int))
	return int(whole.Int64()), rest
}

// split is Split by another hand: numbers without bounds, and nothing sorted; who has most left is looked for each time.
func split(n int, weights []int) ([]int, api.Errno) {
	if n < 0 || n > 1<<60 || len(weights) < 1 || len(weights) > 16 {
		return nil, api.ErrArg
	}
	all := new(big.Int)
	for _, w := range weights {
		if w < 0 || w > 1<<60 {
			return nil, api.ErrArg
		}
		all.Add(all, big.NewInt(int64(w)))
	}
	if all.Cmp(big.NewInt(1<<60)) > 0 {
		return nil, api.ErrOver
	}
	if all.Sign() == 0 {
		return nil, api.ErrArg
	}
	var shares []int
	var rests []*big.Int
	for _, w := range weights {
		whole, rest := shared(n, w, int(all.Int64()))
		shares, rests = append(shares, whole), append(rests, rest)
	}
	for left := n - total(shares); left > 0; left-- {
		most := 0
		for k := range rests {
			if rests[k].Cmp(rests[most]) > 0 {
				most = k
			}
		}
		shares[most]++
		rests[most] = big.NewInt(-1)
	}
	return shares, api.OK
}

func total(l []int) int {
	sum := 0
	for _, n := range l {
		sum += n
	}
	return sum
}

// told looks at a number and an error.
func told(t *testing.T, what string, about any, n int, e api.Errno, want int, err api.Errno) {
	t.Helper()
	if n != want || e != err {
		t.Errorf("%s of %v: %d, %d, want %d, %d", what, about, n, e, want, err)
	}
}

// same looks at shares and an error; beside an error the shares are to be empty.
func same(t *testing.T, n int, weights, l []int, e api.Errno, want []int, err api.Errno) {
	t.Helper()
	if !slices.Equal(l, want) || e != err {
		t.Errorf("Split of %d by %v: %v, %d, want %v, %d", n, weights, l, e, want, err)
	}
}

// Fe1: Check, in words that are written out.
func TestFe1CheckWritten(t *testing.T) {
	for _, x := range []struct {
		f api.Fees
		e api.Errno
	}{
		{api.Fees{}, api.OK},
		{api.Fees{Broker: 100, Least: 3, Sales: 250}, api.OK},
		{api.Fees{Broker: 10000, Least: 1 << 60, Sales: 10000}, api.OK},
		{api.Fees{Broker: 10000}, api.OK},
		{api.Fees{Sales: 10000}, api.OK},
		{api.Fees{Least: 10001}, api.OK},
		{api.Fees{Least: 1 << 60}, api.OK},
		{api.Fees{Broker: 10001}, api.ErrArg},
		{api.Fees{Broker: -1}, api.ErrArg},
		{api.Fees{Broker: least}, api.ErrArg},
		{api.Fees{Broker: math.MaxInt}, api.ErrArg},
		{api.Fees{Sales: 10001}, api.ErrArg},
		{api.Fees{Sales: -1}, api.ErrArg},
		{api.Fees{Sales: least}, api.ErrArg},
		{api.Fees{Sales: math.MaxInt}, api.ErrArg},
		{api.Fees{Least: 1<<60 + 1}, api.ErrArg},
		{api.Fees{Least: -1}, api.ErrArg},
		{api.Fees{Least: least}, api.ErrArg},
		{api.Fees{Least: math.MaxInt}, api.ErrArg},
	} {
		if e := fee.Check(x.f); e != x.e {
			t.Errorf("Check of %v: %d, want %d", x.f, e, x.e)
		}
	}
}

// Fe1: Check at all edges.
func TestFe1CheckEdges(t *testing.T) {
	for _, f := range edges() {
		want := api.ErrArg
		if fees(f) {
			want = api.OK
		}
		if e := fee.Check(f); e != want {
			t.Errorf("Check of %v: %d, want %d", f, e, want)
		}
	}
}

// Fe1: Broker, in words that are written out.
func TestFe1BrokerWritten(t *testing.T) {
	f := api.Fees{Broker: 100, Least: 3, Sales: 250}
	for _, x := range []struct {
		f        api.Fees
		worth, n int
		e        api.Errno
	}{
		{f, 0, 3, api.OK}, // the least is taken of nothing, too
		{f, 1, 3, api.OK},
		{f, 200, 3, api.OK},
		{f, 300, 3, api.OK},
		{f, 301, 4, api.OK}, // rounded up
		{f, 400, 4, api.OK},
		{f, 401, 5, api.OK},
		{f, 10000, 100, api.OK},
		{f, money, money/100 + 1, api.OK},
		{api.Fees{}, 0, 0, api.OK},
		{api.Fees{}, money, 0, api.OK},
		{api.Fees{Sales: 10000}, 10000, 0, api.OK},
		{api.Fees{Broker: 1}, 0, 0, api.OK},
		{api.Fees{Broker: 1}, 1, 1, api.OK},
		{api.Fees{Broker: 1}, 10000, 1, api.OK},
		{api.Fees{Broker: 1}, 10001, 2, api.OK},
		{api.Fees{Broker: 10000}, 7, 7, api.OK},
		{api.Fees{Broker: 10000}, money, money, api.OK},
		{api.Fees{Broker: 9999}, money, money - money/10000, api.OK},
		{api.Fees{Broker: 5, Least: 100}, 100, 100, api.OK}, // the least may be more than the worth
		{api.Fees{Least: money}, 0, money, api.OK},
		{api.Fees{Broker: 10000, Least: money}, money, money, api.OK},
		{f, -1, 0, api.ErrArg},
		{f, least, 0, api.ErrArg},
		{f, money + 1, 0, api.ErrArg},
		{f, math.MaxInt, 0, api.ErrArg},
		{api.Fees{}, -1, 0, api.ErrArg},
		{api.Fees{Broker: 10001}, 1, 0, api.ErrArg},
		{api.Fees{Broker: -1}, 1, 0, api.ErrArg},
		{api.Fees{Least: -1}, 1, 0, api.ErrArg},
		{api.Fees{Least: money + 1}, 1, 0, api.ErrArg},
		// Also what Broker does not ask for is to be as it must.
		{api.Fees{Sales: 10001}, 1, 0, api.ErrArg},
		{api.Fees{Sales: -1}, 1, 0, api.ErrArg},
	} {
		n, e := fee.Broker(x.f, x.worth)
		told(t, "Broker", []any{x.f, x.worth}, n, e, x.n, x.e)
	}
}

// Fe1: Sale, in words that are written out.
func TestFe1SaleWritten(t *testing.T) {
	f := api.Fees{Broker: 100, Least: 3, Sales: 250}
	for _, x := range []struct {
		f        api.Fees
		price, n int
		e        api.Errno
	}{
		{f, 0, 0, api.OK}, // no least here
		{f, 1, 0, api.OK},
		{f, 39, 0, api.OK},
		{f, 40, 1, api.OK},
		{f, 79, 1, api.OK}, // rounded down
		{f, 80, 2, api.OK},
		{f, 10000, 250, api.OK},
		{f, money, money / 40, api.OK},
		{api.Fees{}, money, 0, api.OK},
		{api.Fees{Broker: 10000}, 10000, 0, api.OK},
		{api.Fees{Sales: 500}, 100, 5, api.OK},
		{api.Fees{Sales: 1}, 9999, 0, api.OK},
		{api.Fees{Sales: 1}, 10000, 1, api.OK},
		{api.Fees{Sales: 10000}, 7, 7, api.OK},
		{api.Fees{Sales: 10000}, money, money, api.OK},
		{api.Fees{Sales: 9999}, money, money - money/10000 - 1, api.OK},
		{f, -1, 0, api.ErrArg},
		{f, least, 0, api.ErrArg},
		{f, money + 1, 0, api.ErrArg},
		{f, math.MaxInt, 0, api.ErrArg},
		{api.Fees{Sales: 10001}, 1, 0, api.ErrArg},
		{api.Fees{Sales: -1}, 1, 0, api.ErrArg},
		// Also what Sale does not ask for is to be as it must.
		{api.Fees{Broker: 10001}, 1, 0, api.ErrArg},
		{api.Fees{Broker: -1}, 1, 0, api.ErrArg},
		{api.Fees{Least: -1}, 1, 0, api.ErrArg},
		{api.Fees{Least: money + 1}, 1, 0, api.ErrArg},
	} {
		n, e := fee.Sale(x.f, x.price)
		told(t, "Sale", []any{x.f, x.price}, n, e, x.n, x.e)
	}
}

// Fe1: Bay, in words that are written out.
func TestFe1BayWritten(t *testing.T) {
	for _, x := range []struct {
		rate, time, n int
		e             api.Errno
	}{
		{0, 0, 0, api.OK},
		{0, ages, 0, api.OK},
		{10000, 0, 0, api.OK},
		{1, 1, 1, api.OK}, // rounded up
		{1, 10000, 1, api.OK},
		{1, 10001, 2, api.OK},
		{250, 40, 1, api.OK},
		{250, 41, 2, api.OK},
		{10000, 7, 7, api.OK},
		{10000, ages, ages, api.OK},
		{1, ages, ages/10000 + 1, api.OK},
		{9999, ages, ages - ages/10000, api.OK},
		{-1, 1, 0, api.ErrArg},
		{least, 1, 0, api.ErrArg},
		{10001, 1, 0, api.ErrArg},
		{10001, 0, 0, api.ErrArg},
		{math.MaxInt, 1, 0, api.ErrArg},
		{1, -1, 0, api.ErrArg},
		{0, -1, 0, api.ErrArg},
		{1, least, 0, api.ErrArg},
		{1, ages + 1, 0, api.ErrArg},
		{0, ages + 1, 0, api.ErrArg},
		{1, math.MaxInt, 0, api.ErrArg},
		{-1, -1, 0, api.ErrArg},
	} {
		n, e := fee.Bay(x.rate, x.time)
		told(t, "Bay", []int{x.rate, x.time}, n, e, x.n, x.e)
	}
}

// Fe1: Broker and Sale at all edges, against numbers without bounds.
func TestFe1Edges(t *testing.T) {
	for _, f := range edges() {
		for _, n := range sums {
			broker, sale, err := 0, 0, api.ErrArg
			if fees(f) && n >= 0 && n <= 1<<60 {
				broker, sale, err = parts(n, f.Broker, true), parts(n, f.Sales, false), api.OK
				if broker < f.Least {
					broker = f.Least
				}
			}
			got, e := fee.Broker(f, n)
			told(t, "Broker", []any{f, n}, got, e, broker, err)
			got, e = fee.Sale(f, n)
			told(t, "Sale", []any{f, n}, got, e, sale, err)
		}
	}
}

// Fe1: Bay at all edges, against numbers without bounds.
func TestFe1BayEdges(t *testing.T) {
	for _, rate := range rates {
		for _, time := range spans {
			want, err := 0, api.ErrArg
			if rate >= 0 && rate <= 10000 && time >= 0 && time <= 1<<40 {
				want, err = parts(time, rate, true), api.OK
			}
			n, e := fee.Bay(rate, time)
			told(t, "Bay", []int{rate, time}, n, e, want, err)
		}
	}
}

// Fe1: numbers by chance, against numbers without bounds.
func TestFe1Chance(t *testing.T) {
	r := chance()
	for range 20000 {
		f := api.Fees{Broker: r.IntN(10001), Least: r.IntN(1 << r.IntN(60)), Sales: r.IntN(10001)}
		worth, time := amount(r), r.IntN(ages+1)
		n, e := fee.Broker(f, worth)
		told(t, "Broker", []any{f, worth}, n, e, max(parts(worth, f.Broker, true), f.Least), api.OK)
		n, e = fee.Sale(f, worth)
		told(t, "Sale", []any{f, worth}, n, e, parts(worth, f.Sales, false), api.OK)
		n, e = fee.Bay(f.Broker, time)
		told(t, "Bay", []int{f.Broker, time}, n, e, parts(time, f.Broker, true), api.OK)
	}
}

// Fe2: Split, in words that are written out.
func TestFe2Written(t *testing.T) {
	for _, x := range []struct {
		n       int
		weights []int
		want    []int
	}{
		{10, []int{1, 1, 1}, []int{4, 3, 3}},
		{11, []int{1, 1, 1}, []int{4, 4, 3}},
		{12, []int{1, 1, 1}, []int{4, 4, 4}},
		{1, []int{1, 1, 1}, []int{1, 0, 0}},
		{0, []int{1, 1, 1}, []int{0, 0, 0}},
		{0, []int{0, 5}, []int{0, 0}},
		{7, []int{0, 5}, []int{0, 7}},
		{7, []int{5, 0}, []int{7, 0}},
		{7, []int{1}, []int{7}},
		{7, []int{money}, []int{7}},
		{100, []int{1, 2, 3}, []int{17, 33, 50}},
		{100, []int{3, 2, 1}, []int{50, 33, 17}},
		// 2.5 and 7.5: as much is left of both; the one that stands ahead has one more.
		{10, []int{1, 3}, []int{3, 7}},
		{10, []int{3, 1}, []int{8, 2}},
		// 0.6, 0.6, 1.8, 0: most is left of the third one, then of the first one, ahead of the second one.
		{3, []int{1, 1, 3, 0}, []int{1, 0, 2, 0}},
		{3, []int{0, 3, 1, 1}, []int{0, 2, 1, 0}},
		// 1.25, 1.75, 3: the second one has what is left, though the first one stands ahead.
		{6, []int{5, 7, 12}, []int{1, 2, 3}},
		// 0.9, 0.9, 0.9, 0.3: all but one of those that something is left of have one.
		{3, []int{3, 3, 3, 1}, []int{1, 1, 1, 0}},
		{3, []int{1, 3, 3, 3}, []int{0, 1, 1, 1}},
		// What has no weight has no share, also where it stands ahead.
		{5, []int{0, 1, 0, 1, 0}, []int{0, 3, 0, 2, 0}},
		{15, []int{1, 1, 1, 1, 1, 1, 1, 1, 1, 1, 1, 1, 1, 1, 1, 1}, []int{1, 1, 1, 1, 1, 1, 1, 1, 1, 1, 1, 1, 1, 1, 1, 0}},
		{money, []int{money}, []int{money}},
		{money, []int{money, 0}, []int{money, 0}},
		{money, []int{money / 2, money / 2}, []int{money / 2, money / 2}},
		{money, []int{1, 1}, []int{money / 2, money / 2}},
		{money, []int{1, 1, 1}, []int{money/3 + 1, money / 3, money / 3}},
		{money, []int{1, money - 1}, []int{1, money - 1}},
		{money - 1, []int{1, money - 1}, []int{1, money - 2}},
		{money - 1, []int{money - 1, 1}, []int{money - 2, 1}},
		{1, []int{1, money - 1}, []int{0, 1}},
		{money / 2, []int{1, money - 1}, []int{1, money/2 - 1}},
		{money/2 - 1, []int{1, money - 1}, []int{0, money/2 - 1}},
	} {
		l, e := fee.Split(x.n, x.weights)
		same(t, x.n, x.weights, l, e, x.want, api.OK)
	}
}

// Fe2: what is refused, and which error is told ahead.
func TestFe2Refused(t *testing.T) {
	ones := slices.Repeat([]int{1}, 17)
	for _, x := range []struct {
		n       int
		weights []int
		e       api.Errno
	}{
		{1, nil, api.ErrArg},
		{1, []int{}, api.ErrArg},
		{0, nil, api.ErrArg},
		{-1, []int{1}, api.ErrArg},
		{least, []int{1}, api.ErrArg},
		{money + 1, []int{1}, api.ErrArg},
		{math.MaxInt, []int{1}, api.ErrArg},
		{1, ones, api.ErrArg},
		{1, make([]int, 17), api.ErrArg},
		{1, []int{-1}, api.ErrArg},
		{1, []int{-1, 2}, api.ErrArg},
		{1, []int{2, -1}, api.ErrArg},
		{1, []int{least, 2}, api.ErrArg},
		{1, []int{money + 1}, api.ErrArg},
		{1, []int{math.MaxInt}, api.ErrArg},
		{1, []int{0}, api.ErrArg},
		{1, []int{0, 0}, api.ErrArg},
		{0, []int{0, 0}, api.ErrArg},
		{1, make([]int, 16), api.ErrArg},
		{1, []int{money, 1}, api.ErrOver},
		{0, []int{1, money}, api.ErrOver},
		{1, []int{money/2 + 1, money / 2}, api.ErrOver},
		// Sums that are no int, and those that would be small, or 0, if numbers went round.
		{1, slices.Repeat([]int{money}, 7), api.ErrOver},
		{1, slices.Repeat([]int{money}, 8), api.ErrOver},
		{1, slices.Repeat([]int{money}, 15), api.ErrOver},
		{1, slices.Repeat([]int{money}, 16), api.ErrOver},
		// ErrArg is named first, wherever it stands.
		{-1, []int{money, 1}, api.ErrArg},
		{money + 1, []int{money, money}, api.ErrArg},
		{1, []int{money, money, -1}, api.ErrArg},
		{1, []int{-1, money, money}, api.ErrArg},
		{1, []int{money, money, money + 1}, api.ErrArg},
		{1, append(slices.Repeat([]int{money}, 15), -1), api.ErrArg},
		{1, slices.Repeat([]int{money}, 17), api.ErrArg},
		{1, slices.Repeat([]int{1}, 1000), api.ErrArg},
	} {
		l, e := fee.Split(x.n, x.weights)
		same(t, x.n, x.weights, l, e, nil, x.e)
	}
}

// Fe2: as many weights as may be, and one more.
func TestFe2Many(t *testing.T) {
	for many := range 20 {
		weights := slices.Repeat([]int{money / 16}, many)
		l, e := fee.Split(money-1, weights)
		want, err := split(money-1, weights)
		same(t, money-1, weights, l, e, want, err)
		if ok := many >= 1 && many <= 16; ok != (e == api.OK) {
			t.Errorf("%d weights: %d", many, e)
		}
	}
}

// Fe2: all lists of up to four small weights, of all small numbers, against another hand.
func TestFe2Small(t *testing.T) {
	all := lists(4, []int{0, 1, 2, 3, 5})
	for n := -1; n <= 23; n++ {
		for _, weights := range all {
			l, e := fee.Split(n, weights)
			want, err := split(n, weights)
			same(t, n, weights, l, e, want, err)
		}
	}
}

// Fe2: all lists of up to three weights at the edges, of numbers at the edges, against another hand.
func TestFe2Edges(t *testing.T) {
	all := lists(3, []int{least, -1, 0, 1, 3, 1 << 32, money / 3, money/3 + 1, money/2 - 1, money / 2, money/2 + 1, money - 1, money, money + 1, math.MaxInt})
	for _, n := range sums {
		for _, weights := range all {
			l, e := fee.Split(n, weights)
			want, err := split(n, weights)
			same(t, n, weights, l, e, want, err)
		}
	}
}

// lists are all lists of up to so many of some numbers.
func lists(long int, numbers []int) [][]int {
	all := [][]int{nil}
	last := all
	for range long {
		var next [][]int
		for _, l := range last {
			for _, n := range numbers {
				next = append(next, append(slices.Clone(l), n))
			}
		}
		all = append(all, next...)
		last = next
	}
	return all
}

// weighed are weights by chance, which together may be: some are 0, and some are the same.
func weighed(r *rand.Rand) []int {
	bits := r.IntN(57)
	weights := make([]int, 1+r.IntN(16))
	for k := range weights {
		switch r.IntN(6) {
		case 0:
		case 1:
			weights[k] = weights[r.IntN(k+1)]
		default:
			weights[k] = r.IntN(1 << bits)
		}
	}
	weights[r.IntN(len(weights))]++
	return weights
}

// Fe2, Fe3: numbers and weights by chance: against another hand; and what follows holds.
func TestFe3Chance(t *testing.T) {
	r := chance()
	for range 20000 {
		n, weights := amount(r), weighed(r)
		if r.IntN(2) == 0 {
			n = r.IntN(100)
		}
		l, e := fee.Split(n, weights)
		want, err := split(n, weights)
		same(t, n, weights, l, e, want, err)
		if e != api.OK {
			t.Fatalf("Split of %d by %v: %d", n, weights, e)
		}
		follows(t, n, weights, l)
	}
}

// Fe3: what follows, of all small ones.
func TestFe3Small(t *testing.T) {
	for n := range 30 {
		for _, weights := range lists(4, []int{0, 1, 2, 3, 7}) {
			if l, e := fee.Split(n, weights); e == api.OK {
				follows(t, n, weights, l)
			} else if total(weights) > 0 {
				t.Errorf("Split of %d by %v: %d", n, weights, e)
			}
		}
	}
}

// Fe3: what follows, at the greatest numbers.
func TestFe3Great(t *testing.T) {
	for _, weights := range [][]int{
		{money/2 - 1, money/2 + 1}, {1, 2, money - 3}, {money / 3, money / 3, money / 3, 1}, {1, 0, 1},
		slices.Repeat([]int{money / 16}, 16), append(slices.Repeat([]int{1}, 15), money-15),
	} {
		for _, n := range []int{0, 1, 2, 15, 16, 17, money/2 - 1, money / 2, money/2 + 1, money - 17, money - 16, money - 1, money} {
			l, e := fee.Split(n, weights)
			if e != api.OK {
				t.Errorf("Split of %d by %v: %d", n, weights, e)
				continue
			}
			follows(t, n, weights, l)
		}
	}
}

// follows looks at shares as the chapter says what follows: in numbers without bounds.
func follows(t *testing.T, n int, weights, shares []int) {
	t.Helper()
	if len(shares) != len(weights) || total(shares) != n {
		t.Errorf("Split of %d by %v: %v", n, weights, shares)
		return
	}
	all := big.NewInt(int64(total(weights)))
	for k, w := range weights {
		// The share times all, and n times the weight, are less than all away from each other.
		away := new(big.Int).Mul(big.NewInt(int64(n)), big.NewInt(int64(w)))
		away.Sub(away, new(big.Int).Mul(big.NewInt(int64(shares[k])), all))
		if away.CmpAbs(all) >= 0 {
			t.Errorf("Split of %d by %v: %v: %d is far away", n, weights, shares, shares[k])
		}
		for m, less := range weights {
			if w > less && shares[k] < shares[m] {
				t.Errorf("Split of %d by %v: %v: of a greater weight less", n, weights, shares)
			}
		}
	}
}

// R3: the weights are not changed, nor what lies behind their end, and that is not read.
func TestWeightsAreLeft(t *testing.T) {
	wide := []int{3, 0, 1, 1, -1, money, math.MaxInt}
	ahead := slices.Clone(wide)
	for long := range len(wide) + 1 {
		weights := wide[:long]
		l, e := fee.Split(10, weights)
		want, err := split(10, ahead[:long:long])
		same(t, 10, weights, l, e, want, err)
		if !slices.Equal(wide, ahead) {
			t.Fatalf("behind Split by %v there is %v", weights, wide)
		}
	}
}

// R3, R4: shares are new memory, and asked again they are the same.
func TestSharesAreNew(t *testing.T) {
	weights := []int{1, 2, 3, 0}
	first, e := fee.Split(7, weights)
	same(t, 7, weights, first, e, []int{1, 2, 4, 0}, api.OK)
	second, e := fee.Split(7, weights)
	same(t, 7, weights, second, e, first, api.OK)
	for k := range first {
		first[k] = 99
	}
	_ = append(first, 98)
	if !slices.Equal(weights, []int{1, 2, 3, 0}) || !slices.Equal(second, []int{1, 2, 4, 0}) {
		t.Errorf("shares are shared: %v, %v", weights, second)
	}
}
