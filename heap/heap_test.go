package heap_test

import (
	"bottomry/api"
	"bottomry/heap"
	"math"
	"math/rand/v2"
	"slices"
	"testing"
)

const mostRoom = 1024

// chance are numbers that are the same at each run.
func chance() *rand.Rand { return rand.New(rand.NewPCG(7, 20)) }

// other is a queue by another hand: a list of timers, in the order in which they came in, or were moved.
type other struct {
	most, next int
	l          []api.Timer
}

// sorted are its timers by their times, those of one time in the order in which they stand.
func (o *other) sorted() []api.Timer {
	var l []api.Timer
	for _, x := range o.l {
		i := len(l)
		for i > 0 && l[i-1].At > x.At {
			i--
		}
		l = slices.Insert(l, i, x)
	}
	return l
}

// place is where the timer with that number stands in its list; -1, if it is not there.
func (o *other) place(id int) int {
	return slices.IndexFunc(o.l, func(x api.Timer) bool { return x.Id == id })
}

func (o *other) insert(at, what int) (int, api.Errno) {
	if at < 0 {
		return 0, api.ErrArg
	}
	if len(o.l) >= o.most || o.next >= api.MaxTime {
		return 0, api.ErrFull
	}
	o.l = append(o.l, api.Timer{At: at, Id: o.next, What: what})
	o.next++
	return o.next - 1, api.OK
}

func (o *other) cancel(id int) api.Errno {
	i := o.place(id)
	if i < 0 {
		return api.ErrNone
	}
	o.l = slices.Delete(o.l, i, i+1)
	return api.OK
}

func (o *other) move(id, at int) (int, api.Errno) {
	i := o.place(id)
	if i < 0 {
		return 0, api.ErrNone
	}
	if at < 0 {
		return 0, api.ErrArg
	}
	if o.next >= api.MaxTime {
		return 0, api.ErrFull
	}
	what := o.l[i].What
	o.l = append(slices.Delete(o.l, i, i+1), api.Timer{At: at, Id: o.next, What: what})
	o.next++
	return o.next - 1, api.OK
}

func (o *other) pop(now int) (api.Timer, bool) {
	l := o.sorted()
	if len(l) == 0 || l[0].At > now {
		return api.Timer{}, false
	}
	o.cancel(l[0].Id)
	return l[0], true
}

// fresh is a queue without timers, and another hand's.
func fresh(t *testing.T, most int) (*heap.Queue, *other) {
	t.Helper()
	q, e := heap.New(most)
	if q == nil || e != api.OK {
		t.Fatalf("New(%d): %d", most, e)
	}
	return q, &other{most: most, next: 1}
}

// loaded is a queue with timers that there were.
func loaded(t *testing.T, most int, l []api.Timer, next int) *heap.Queue {
	t.Helper()
	q, e := heap.Load(most, l, next)
	if q == nil || e != api.OK {
		t.Fatalf("Load(%d, %v, %d): %d", most, l, next, e)
	}
	return q
}

// refuses looks for a Load that is to be refused.
func refuses(t *testing.T, most int, l []api.Timer, next int) {
	t.Helper()
	if q, e := heap.Load(most, l, next); q != nil || e != api.ErrArg {
		t.Errorf("Load(%d, %.20v, %d): %v, %d", most, l, next, q, e)
	}
}

// numbered looks at what Insert or Move answer, a number and no error.
func numbered(t *testing.T, want int) func(int, api.Errno) {
	t.Helper()
	return func(id int, e api.Errno) {
		t.Helper()
		if id != want || e != api.OK {
			t.Errorf("answered %d, %d, want the number %d", id, e, want)
		}
	}
}

// refused looks at what Insert or Move answer, an error.
func refused(t *testing.T, want api.Errno) func(int, api.Errno) {
	t.Helper()
	return func(id int, e api.Errno) {
		t.Helper()
		if id != 0 || e != want {
			t.Errorf("answered %d, %d, want the error %d", id, e, want)
		}
	}
}

// answers looks at an error.
func answers(t *testing.T, what string, got, want api.Errno) {
	t.Helper()
	if got != want {
		t.Errorf("%s: answered %d, want %d", what, got, want)
	}
}

// holds looks at all that a queue tells: the timers are to be all that it has, as they come.
func holds(t *testing.T, q *heap.Queue, want []api.Timer, next int) {
	t.Helper()
	if l := q.List(); !slices.Equal(l, want) {
		t.Errorf("List: %v, want %v", l, want)
	}
	if q.Len() != len(want) || q.Next() != next {
		t.Errorf("Len %d, Next %d, want %d, %d", q.Len(), q.Next(), len(want), next)
	}
	var first api.Timer
	if len(want) > 0 {
		first = want[0]
	}
	if x, ok := q.First(); x != first || ok != (len(want) > 0) {
		t.Errorf("First: %v, %v, want %v", x, ok, first)
	}
	if x, ok := q.Pop(first.At - 1); x != (api.Timer{}) || ok {
		t.Errorf("Pop ahead of the first one: %v, %v", x, ok)
	}
	for _, x := range want {
		if y, ok := q.Get(x.Id); y != x || !ok {
			t.Errorf("Get(%d) = %v, %v, want %v", x.Id, y, ok, x)
		}
	}
	for _, id := range []int{next, next + 1, 0, -1, math.MinInt, math.MaxInt} {
		lacks(t, q, id)
	}
}

// lacks looks for a number that no timer is to have.
func lacks(t *testing.T, q *heap.Queue, id int) {
	t.Helper()
	if x, ok := q.Get(id); x != (api.Timer{}) || ok {
		t.Errorf("Get(%d) = %v, %v", id, x, ok)
	}
	answers(t, "Cancel of none", q.Cancel(id), api.ErrNone)
	for _, at := range []int{0, 5, -1, math.MaxInt, math.MinInt} {
		refused(t, api.ErrNone)(q.Move(id, at))
	}
}

// comes takes all timers away, one by one: they are to come so, each at its time, and not ahead of it.
func comes(t *testing.T, q *heap.Queue, want []api.Timer) {
	t.Helper()
	next := q.Next()
	for i, x := range want {
		if y, ok := q.Pop(x.At - 1); y != (api.Timer{}) || ok {
			t.Errorf("Pop(%d) = %v, %v", x.At-1, y, ok)
		}
		if y, ok := q.Pop(x.At); y != x || !ok {
			t.Errorf("Pop(%d) = %v, %v, want %v", x.At, y, ok, x)
		}
		lacks(t, q, x.Id)
		if q.Len() != len(want)-i-1 {
			t.Errorf("Len: %d behind %d", q.Len(), i+1)
		}
	}
	if x, ok := q.Pop(math.MaxInt); x != (api.Timer{}) || ok {
		t.Errorf("Pop of an empty one: %v, %v", x, ok)
	}
	holds(t, q, nil, next)
}

// drains takes all timers away at the end of time: they are to come so. It looks at no more, as it is called often.
func drains(t *testing.T, q *heap.Queue, want []api.Timer) {
	t.Helper()
	for _, x := range append(want, api.Timer{}) {
		if y, _ := q.Pop(math.MaxInt); y != x {
			t.Errorf("Pop: %v, want %v", y, x)
		}
	}
}

// same looks whether a queue has what another hand's has.
func same(t *testing.T, q *heap.Queue, o *other) {
	t.Helper()
	holds(t, q, o.sorted(), o.next)
}

// orders are all orders of the numbers 0 to n less 1.
func orders(n int) [][]int {
	if n == 0 {
		return [][]int{nil}
	}
	var all [][]int
	for _, l := range orders(n - 1) {
		for i := range n {
			all = append(all, slices.Insert(slices.Clone(l), i, n-1))
		}
	}
	return all
}

// He1: how many there may be.
func TestHe1New(t *testing.T) {
	for _, most := range []int{1, 2, 3, 256, 1000, mostRoom - 1, mostRoom} {
		q, _ := fresh(t, most)
		holds(t, q, nil, 1)
		comes(t, loaded(t, most, nil, 1), nil)
	}
	for _, most := range []int{0, -1, -2, mostRoom + 1, 2000, 1 << 32, 1<<32 + 1, math.MinInt, math.MinInt + 1, math.MaxInt} {
		if q, e := heap.New(most); q != nil || e != api.ErrArg {
			t.Errorf("New(%d): %v, %d", most, q, e)
		}
		refuses(t, most, nil, 1)
		refuses(t, most, []api.Timer{{At: 1, Id: 1}}, 2)
	}
}

// He1: what was there is there again, in whatever order it is handed in, and what comes in goes on from next.
func TestHe1Load(t *testing.T) {
	want := []api.Timer{{At: 0, Id: 9, What: -1}, {At: 3, Id: 2, What: 5}, {At: 3, Id: 4, What: 5}, {At: 3, Id: 11}, {At: 7, Id: 1, What: math.MinInt}, {At: math.MaxInt, Id: 3, What: math.MaxInt}}
	for _, order := range orders(len(want)) {
		var l []api.Timer
		for _, i := range order {
			l = append(l, want[i])
		}
		q := loaded(t, 7, l, 12)
		holds(t, q, want, 12)
		numbered(t, 12)(q.Insert(3, 8))
		refused(t, api.ErrFull)(q.Insert(3, 8))
		comes(t, q, slices.Insert(slices.Clone(want), 4, api.Timer{At: 3, Id: 12, What: 8}))
		if t.Failed() {
			t.Fatalf("in the order %v", order)
		}
	}
}

// He1: the next number may be any of 1 to MaxTime, whichever there are below it.
func TestHe1LoadNext(t *testing.T) {
	for _, next := range []int{1, 2, 5, 1 << 20, 1 << 32, api.MaxTime - 1, api.MaxTime} {
		holds(t, loaded(t, 3, nil, next), nil, next)
		holds(t, loaded(t, 3, []api.Timer{}, next), nil, next)
	}
	for _, next := range []int{0, -1, math.MinInt, api.MaxTime + 1, math.MaxInt} {
		refuses(t, 3, nil, next)
		refuses(t, 3, []api.Timer{{At: 1, Id: 1}}, next)
	}
	refuses(t, 3, []api.Timer{{At: 1, Id: 1}}, 1)
}

// He1: a timer's At is 0 to MaxInt, its Id 1 to next less 1; no two have one Id, wherever they stand.
func TestHe1LoadWrong(t *testing.T) {
	good := []api.Timer{{At: 4, Id: 1}, {At: 2, Id: 3}, {At: 4, Id: 5}, {At: 9, Id: 7}}
	for _, next := range []int{8, 9, 1 << 32, api.MaxTime} {
		wrong := []api.Timer{
			{At: -1, Id: 2}, {At: -5, Id: 2}, {At: math.MinInt, Id: 2},
			{At: 1, Id: 0}, {At: 1, Id: -1}, {At: 1, Id: math.MinInt},
			{At: 1, Id: next}, {At: 1, Id: next + 1}, {At: 1, Id: math.MaxInt},
			{At: 4, Id: 1}, {At: 1, Id: 1}, {At: 1, Id: 3}, {At: 1, Id: 5}, {At: 9, Id: 7, What: 1}, {At: 1, Id: 7},
			{},
		}
		for i := range len(good) + 1 {
			for _, x := range wrong {
				refuses(t, 9, slices.Insert(slices.Clone(good), i, x), next)
			}
			for _, x := range []api.Timer{{At: 0, Id: 2}, {At: math.MaxInt, Id: 2}, {At: 4, Id: 2, What: -9}, {At: 4, Id: 6}} {
				loaded(t, 9, slices.Insert(slices.Clone(good), i, x), next)
			}
		}
	}
	last := loaded(t, 1, []api.Timer{{At: 1, Id: api.MaxTime - 1}}, api.MaxTime)
	holds(t, last, []api.Timer{{At: 1, Id: api.MaxTime - 1}}, api.MaxTime)
	refuses(t, 1, []api.Timer{{At: 1, Id: api.MaxTime}}, api.MaxTime)
}

// He1: no more timers than most are taken.
func TestHe1LoadMost(t *testing.T) {
	for _, most := range []int{1, 2, 3, 10, mostRoom - 1, mostRoom} {
		var l []api.Timer
		for i := range most {
			l = append(l, api.Timer{At: 1, Id: 1 + i})
		}
		q := loaded(t, most, l, most+2)
		refused(t, api.ErrFull)(q.Insert(1, 1))
		holds(t, q, l, most+2)
		refuses(t, most, append(l, api.Timer{At: 1, Id: most + 1}), most+2)
	}
}

// He2: timers have the numbers 1, 2 and so on; also behind others that are gone.
func TestHe2Insert(t *testing.T) {
	q, _ := fresh(t, 3)
	numbered(t, 1)(q.Insert(5, math.MaxInt))
	numbered(t, 2)(q.Insert(0, math.MinInt))
	numbered(t, 3)(q.Insert(math.MaxInt, -1))
	holds(t, q, []api.Timer{{At: 0, Id: 2, What: math.MinInt}, {At: 5, Id: 1, What: math.MaxInt}, {At: math.MaxInt, Id: 3, What: -1}}, 4)
	answers(t, "Cancel", q.Cancel(3), api.OK)
	numbered(t, 4)(q.Insert(5, 0))
	q.Pop(0)
	numbered(t, 5)(q.Insert(5, 0))
	holds(t, q, []api.Timer{{At: 5, Id: 1, What: math.MaxInt}, {At: 5, Id: 4}, {At: 5, Id: 5}}, 6)
}

// He2: a time below 0, ahead of there being no room.
func TestHe2InsertWrong(t *testing.T) {
	q, o := fresh(t, 2)
	for range 3 {
		for _, at := range []int{-1, -2, math.MinInt} {
			refused(t, api.ErrArg)(q.Insert(at, 1))
		}
		same(t, q, o)
		q.Insert(4, 1)
		o.insert(4, 1)
	}
}

// He2: there are as many as it was made for, and no more.
func TestHe2InsertMost(t *testing.T) {
	for _, most := range []int{1, 2, 5, 256, mostRoom} {
		q, o := fresh(t, most)
		for i := range most {
			numbered(t, i+1)(q.Insert(i%7, i))
			o.insert(i%7, i)
		}
		refused(t, api.ErrFull)(q.Insert(0, 0))
		refused(t, api.ErrFull)(q.Insert(math.MaxInt, 0))
		refused(t, api.ErrArg)(q.Insert(-1, 0))
		same(t, q, o)
		numbered(t, most+1)(q.Move(1, 9))
		refused(t, api.ErrFull)(q.Insert(0, 0))
		answers(t, "Cancel", q.Cancel(most+1), api.OK)
		numbered(t, most+2)(q.Insert(0, 0))
		refused(t, api.ErrFull)(q.Insert(0, 0))
		q.Pop(math.MaxInt)
		numbered(t, most+3)(q.Insert(0, 0))
		refused(t, api.ErrFull)(q.Insert(0, 0))
	}
}

// He2: the number MaxTime is given to none; all else goes on.
func TestHe2Last(t *testing.T) {
	q := loaded(t, 9, []api.Timer{{At: 5, Id: 1, What: 7}, {At: 6, Id: 2}}, api.MaxTime-2)
	numbered(t, api.MaxTime-2)(q.Insert(5, 8))
	numbered(t, api.MaxTime-1)(q.Move(1, 5))
	want := []api.Timer{{At: 5, Id: api.MaxTime - 2, What: 8}, {At: 5, Id: api.MaxTime - 1, What: 7}, {At: 6, Id: 2}}
	for range 2 {
		refused(t, api.ErrFull)(q.Insert(0, 1))
		refused(t, api.ErrArg)(q.Insert(-1, 1))
		refused(t, api.ErrFull)(q.Move(2, 6))
		refused(t, api.ErrArg)(q.Move(2, -1))
		refused(t, api.ErrNone)(q.Move(1, 6))
		holds(t, q, want, api.MaxTime)
	}
	answers(t, "Cancel", q.Cancel(api.MaxTime-1), api.OK)
	refused(t, api.ErrFull)(q.Insert(0, 1))
	comes(t, q, []api.Timer{want[0], want[2]})
	refused(t, api.ErrFull)(q.Insert(0, 1))
}

// He2: any timer may be cancelled, once; the others stay as they are.
func TestHe2Cancel(t *testing.T) {
	for id := 1; id <= 20; id++ {
		q, o := fresh(t, 20)
		for i := range 20 {
			at := i * 7 % 11
			q.Insert(at, i)
			o.insert(at, i)
		}
		answers(t, "Cancel", q.Cancel(id), o.cancel(id))
		lacks(t, q, id)
		same(t, q, o)
		comes(t, q, o.sorted())
	}
}

// He2: all timers are cancelled, in all orders; the last one that is left is the first.
func TestHe2CancelAll(t *testing.T) {
	for _, order := range orders(6) {
		q, o := fresh(t, 6)
		for _, at := range []int{4, 2, 6, 2, 0, 4} {
			q.Insert(at, at)
			o.insert(at, at)
		}
		for _, i := range order {
			answers(t, "Cancel", q.Cancel(i+1), o.cancel(i+1))
			same(t, q, o)
		}
		if t.Failed() {
			t.Fatalf("in the order %v", order)
		}
	}
}

// He2: a timer that is moved is due then, for what it was, and has the next number; the old one is none's.
func TestHe2Move(t *testing.T) {
	for id := 1; id <= 8; id++ {
		for _, at := range []int{0, 1, 2, 3, 4, 5, 6, 7, 8, 9, math.MaxInt} {
			q, o := fresh(t, 8)
			for i := range 8 {
				q.Insert(1+i*3%8, 100+i)
				o.insert(1+i*3%8, 100+i)
			}
			o.move(id, at)
			numbered(t, 9)(q.Move(id, at))
			lacks(t, q, id)
			same(t, q, o)
			if x, ok := q.Get(9); x != (api.Timer{At: at, Id: 9, What: 99 + id}) || !ok {
				t.Errorf("Get(9) = %v, %v", x, ok)
			}
			comes(t, q, o.sorted())
		}
	}
}

// He2: one that is not there, ahead of a time below 0.
func TestHe2MoveWrong(t *testing.T) {
	q, o := fresh(t, 3)
	lacks(t, q, 1)
	for i := range 3 {
		q.Insert(i, i)
		o.insert(i, i)
	}
	for _, at := range []int{-1, -2, math.MinInt} {
		for id := 1; id <= 3; id++ {
			refused(t, api.ErrArg)(q.Move(id, at))
		}
		for _, id := range []int{0, 4, 5, -1, math.MaxInt, math.MinInt} {
			refused(t, api.ErrNone)(q.Move(id, at))
		}
	}
	same(t, q, o)
}

// He2: a timer comes at its time, and not ahead of it; the time 0 is one, and the last one too.
func TestHe2Pop(t *testing.T) {
	for _, at := range []int{0, 1, 2, 1 << 32, api.MaxTime, math.MaxInt - 1, math.MaxInt} {
		q, _ := fresh(t, 2)
		q.Insert(at, 3)
		for _, now := range []int{at - 1, -1, -2, math.MinInt} {
			if x, ok := q.Pop(now); x != (api.Timer{}) || ok {
				t.Errorf("Pop(%d) = %v, %v, though it is due at %d", now, x, ok, at)
			}
		}
		holds(t, q, []api.Timer{{At: at, Id: 1, What: 3}}, 2)
		if x, ok := q.Pop(at); x != (api.Timer{At: at, Id: 1, What: 3}) || !ok {
			t.Errorf("Pop(%d) = %v, %v", at, x, ok)
		}
		comes(t, q, nil)
		q.Insert(at, 4)
		if x, ok := q.Pop(math.MaxInt); x != (api.Timer{At: at, Id: 2, What: 4}) || !ok {
			t.Errorf("Pop at the last time = %v, %v", x, ok)
		}
	}
}

// He2: one that comes is the first of all, whatever else is due; it is gone then.
func TestHe2PopDue(t *testing.T) {
	q, _ := fresh(t, 5)
	for _, at := range []int{5, 3, 5} {
		q.Insert(at, 0)
	}
	var got []int
	for {
		x, ok := q.Pop(9)
		if !ok {
			break
		}
		got = append(got, x.At, x.Id)
	}
	if !slices.Equal(got, []int{3, 2, 5, 1, 5, 3}) {
		t.Errorf("%v", got)
	}
}

// He3: in whatever order timers are put in, they come by their times.
func TestHe3Orders(t *testing.T) {
	for _, order := range orders(7) {
		q, o := fresh(t, 7)
		for _, at := range order {
			q.Insert(at, at)
			o.insert(at, at)
		}
		drains(t, q, o.sorted())
		if t.Failed() {
			t.Fatalf("in the order %v", order)
		}
	}
}

// He3: so they do with one of them taken away, or moved, whichever it is.
func TestHe3OrdersWithout(t *testing.T) {
	for n, order := range orders(7) {
		for id := 1; id <= 7; id++ {
			q, o := fresh(t, 7)
			p, r := fresh(t, 7)
			for _, at := range order {
				q.Insert(at, at)
				o.insert(at, at)
				p.Insert(at, at)
				r.insert(at, at)
			}
			q.Cancel(id)
			o.cancel(id)
			drains(t, q, o.sorted())
			p.Move(id, (n+id)%8)
			r.move(id, (n+id)%8)
			drains(t, p, r.sorted())
			if t.Failed() {
				t.Fatalf("in the order %v, the timer %d", order, id)
			}
		}
	}
}

// He3: so they do if one is taken away, and others are put in behind it, that let stand what would be in a wrong place.
func TestHe3Without(t *testing.T) {
	r := chance()
	for n := range 30000 {
		many := 2 + n%11
		q, o := fresh(t, 30)
		for _, at := range r.Perm(many) {
			q.Insert(at, n)
			o.insert(at, n)
		}
		id := 1 + r.IntN(many)
		q.Cancel(id)
		o.cancel(id)
		for range r.IntN(10) {
			at := 2 * r.IntN(many)
			q.Insert(at, n)
			o.insert(at, n)
		}
		drains(t, q, o.sorted())
		if t.Failed() {
			t.Fatalf("in play %d", n)
		}
	}
}

// He3: those of one time come as they came in, or were moved: also one that is moved to the time that it had.
func TestHe3OneTime(t *testing.T) {
	for _, order := range orders(5) {
		q, _ := fresh(t, 5)
		for i := range 5 {
			q.Insert(3, i)
		}
		var want []api.Timer
		for k, i := range order {
			numbered(t, 6+k)(q.Move(i+1, 3))
			want = append(want, api.Timer{At: 3, Id: 6 + k, What: i})
		}
		holds(t, q, want, 11)
		comes(t, q, want)
	}
}

// step is one call on a queue and on another hand's, by a number that tells which; times and numbers are so few that they come again and again.
func step(t *testing.T, n int, q *heap.Queue, o *other) {
	t.Helper()
	kind, n := n%4, n/4
	at, id := n%3, 1+n/3%4
	if o.next > 5 {
		id += o.next - 5
	}
	switch kind {
	case 0:
		a, e := q.Insert(at, n)
		b, f := o.insert(at, n)
		if a != b || e != f {
			t.Errorf("Insert(%d): %d, %d, want %d, %d", at, a, e, b, f)
		}
	case 1:
		answers(t, "Cancel", q.Cancel(id), o.cancel(id))
	case 2:
		a, e := q.Move(id, at)
		b, f := o.move(id, at)
		if a != b || e != f {
			t.Errorf("Move(%d, %d): %d, %d, want %d, %d", id, at, a, e, b, f)
		}
	case 3:
		a, e := q.Pop(at)
		b, f := o.pop(at)
		if a != b || e != f {
			t.Errorf("Pop(%d): %v, %v, want %v, %v", at, a, e, b, f)
		}
	}
}

// steps are numbers of step that tell all its calls: 3 that put in, 4 that cancel, 12 that move, 3 that take the first one.
func steps() []int {
	var l []int
	for at := range 3 {
		l = append(l, 4*at, 4*at+3)
		for id := range 4 {
			l = append(l, 4*(at+3*id)+2)
			if at == 0 {
				l = append(l, 4*3*id+1)
			}
		}
	}
	return l
}

// He2 and He3: all rows of four calls, behind three timers, in a queue of three and of four.
func TestHe3All(t *testing.T) {
	all := steps()
	for n := range len(all) * len(all) * len(all) * len(all) {
		q, o := fresh(t, 3+n%2)
		for _, at := range []int{1, 0, 1} {
			q.Insert(at, at)
			o.insert(at, at)
		}
		for left, k := n, 0; k < 4; k++ {
			step(t, all[left%len(all)], q, o)
			left /= len(all)
		}
		if l := q.List(); !slices.Equal(l, o.sorted()) || q.Len() != len(o.l) || q.Next() != o.next {
			t.Errorf("%v, want %v", l, o.sorted())
		}
		if n%7 == 0 {
			comes(t, q, o.sorted())
		}
		if t.Failed() {
			t.Fatalf("in row %d", n)
		}
	}
}

// any is a number of a timer that another hand's queue has, mostly, or had.
func (o *other) any(r *rand.Rand) int {
	if len(o.l) == 0 || r.IntN(8) == 0 {
		return r.IntN(o.next + 1)
	}
	return o.l[r.IntN(len(o.l))].Id
}

// walk is one call by chance on a queue and on another hand's; it puts in more, if it is to fill.
func walk(t *testing.T, r *rand.Rand, fill bool, q *heap.Queue, o *other) {
	t.Helper()
	at, id, kind := r.IntN(60), o.any(r), r.IntN(10)
	switch {
	case kind < 4 || fill && kind < 8:
		a, e := q.Insert(at, id)
		b, f := o.insert(at, id)
		if a != b || e != f {
			t.Errorf("Insert(%d): %d, %d, want %d, %d", at, a, e, b, f)
		}
	case kind < 6:
		answers(t, "Cancel", q.Cancel(id), o.cancel(id))
	case kind < 8:
		a, e := q.Move(id, at)
		b, f := o.move(id, at)
		if a != b || e != f {
			t.Errorf("Move(%d, %d): %d, %d, want %d, %d", id, at, a, e, b, f)
		}
	default:
		a, e := q.Pop(at)
		b, f := o.pop(at)
		if a != b || e != f {
			t.Errorf("Pop(%d): %v, %v, want %v, %v", at, a, e, b, f)
		}
	}
}

// He2 and He3: long rows of calls by chance; what is loaded goes on as what it was listed from.
func TestHe3Chance(t *testing.T) {
	r := chance()
	for n, most := range []int{1, 2, 5, 10, 30, 100, 100, 256, 256, mostRoom} {
		q, o := fresh(t, most)
		for k := range 3 * max(most, 100) {
			walk(t, r, k/most%3 < 2, q, o)
			if k%97 == 0 {
				same(t, q, o)
				l := q.List()
				r.Shuffle(len(l), func(i, k int) { l[i], l[k] = l[k], l[i] })
				q = loaded(t, most, l, q.Next())
			}
		}
		same(t, q, o)
		comes(t, q, o.sorted())
		if t.Failed() {
			t.Fatalf("in walk %d", n)
		}
	}
}

// He3: a queue that is full, rising, falling and of one time, comes by the times.
func TestHe3Full(t *testing.T) {
	for what, at := range map[string]func(int) int{
		"rising":   func(i int) int { return i },
		"falling":  func(i int) int { return mostRoom - i },
		"one time": func(int) int { return 9 },
		"few":      func(i int) int { return i * 7 % 5 },
		"mixed":    func(i int) int { return i * 389 % 1021 },
	} {
		q, o := fresh(t, mostRoom)
		for i := range mostRoom {
			q.Insert(at(i), i)
			o.insert(at(i), i)
		}
		for id := 3; id < mostRoom; id += 10 {
			q.Cancel(id)
			o.cancel(id)
			q.Move(id+2, at(id))
			o.move(id+2, at(id))
		}
		same(t, q, o)
		comes(t, q, o.sorted())
		if t.Failed() {
			t.Fatal(what)
		}
	}
}

// He2 and R1: a queue that New and Load did not give.
func TestR1None(t *testing.T) {
	for what, q := range map[string]*heap.Queue{"nil": nil, "zero": new(heap.Queue)} {
		for range 2 {
			for _, n := range []int{0, 1, 2, -1, math.MaxInt, math.MinInt} {
				refused(t, api.ErrArg)(q.Insert(n, 1))
				refused(t, api.ErrArg)(q.Insert(1, n))
				answers(t, what+": Cancel", q.Cancel(n), api.ErrArg)
				refused(t, api.ErrArg)(q.Move(n, 1))
				refused(t, api.ErrArg)(q.Move(1, n))
				if x, ok := q.Pop(n); x != (api.Timer{}) || ok {
					t.Errorf("%s: Pop(%d): %v, %v", what, n, x, ok)
				}
				if x, ok := q.Get(n); x != (api.Timer{}) || ok {
					t.Errorf("%s: Get(%d): %v, %v", what, n, x, ok)
				}
			}
			if x, ok := q.First(); x != (api.Timer{}) || ok {
				t.Errorf("%s: First: %v, %v", what, x, ok)
			}
			if l := q.List(); len(l) != 0 || q.Len() != 0 || q.Next() != 0 {
				t.Errorf("%s: List %v, Len %d, Next %d", what, l, q.Len(), q.Next())
			}
		}
	}
}

// R2: calls that are refused, and those that only ask, change nothing.
func TestR2Asks(t *testing.T) {
	q, o := fresh(t, 3)
	for _, at := range []int{5, 2, 5} {
		q.Insert(at, at)
		o.insert(at, at)
	}
	for range 3 {
		q.Insert(-1, 0)
		q.Insert(1, 0)
		q.Cancel(4)
		q.Move(4, 1)
		q.Move(1, -1)
		q.Pop(1)
		q.First()
		q.Get(2)
		q.List()
		same(t, q, o)
	}
	comes(t, q, o.sorted())
}

// R3: the list that is loaded is not changed, nor kept, nor read behind its end.
func TestR3Load(t *testing.T) {
	room := []api.Timer{{At: 9, Id: 1}, {At: 5, Id: 3}, {At: 7, Id: 2}, {At: -1, Id: -1}, {At: 4, Id: 3}}
	was := slices.Clone(room)
	q := loaded(t, 3, room[:3], 4)
	want := []api.Timer{{At: 5, Id: 3}, {At: 7, Id: 2}, {At: 9, Id: 1}}
	holds(t, q, want, 4)
	q.Cancel(2)
	q.Insert(1, 1)
	q.Move(3, 8)
	if !slices.Equal(room, was) {
		t.Errorf("%v, was %v", room, was)
	}
	q = loaded(t, 3, room[:3], 4)
	clear(room)
	holds(t, q, want, 4)
	comes(t, q, want)
}

// R3: a list of timers is new memory.
func TestR3List(t *testing.T) {
	q, o := fresh(t, 5)
	for _, at := range []int{4, 2, 3} {
		q.Insert(at, at)
		o.insert(at, at)
	}
	l, m := q.List(), q.List()
	clear(l)
	_ = append(l[:1], api.Timer{At: 1, Id: 1}, api.Timer{At: 1, Id: 2})
	if !slices.Equal(m, o.sorted()) {
		t.Errorf("%v", m)
	}
	same(t, q, o)
	was := slices.Clone(m)
	q.Move(1, 0)
	q.Insert(1, 1)
	q.Pop(9)
	if !slices.Equal(m, was) {
		t.Errorf("%v, behind what was done to the queue", m)
	}
}

// R4: two queues know nothing of each other, also if one was loaded from what the other one has.
func TestR4Two(t *testing.T) {
	q, o := fresh(t, 4)
	for _, at := range []int{4, 2, 3} {
		q.Insert(at, at)
		o.insert(at, at)
	}
	p := loaded(t, 4, q.List(), q.Next())
	p.Move(1, 0)
	p.Cancel(2)
	p.Insert(1, 1)
	same(t, q, o)
	holds(t, p, []api.Timer{{At: 0, Id: 4, What: 4}, {At: 1, Id: 5, What: 1}, {At: 3, Id: 3, What: 3}}, 6)
	q.Pop(9)
	q.Insert(9, 9)
	holds(t, p, []api.Timer{{At: 0, Id: 4, What: 4}, {At: 1, Id: 5, What: 1}, {At: 3, Id: 3, What: 3}}, 6)
}
