package table_test

import (
	"bottomry/api"
	"bottomry/table"
	"iter"
	"maps"
	"math"
	"math/rand/v2"
	"slices"
	"testing"
)

// chance are numbers that are the same at each run.
func chance() *rand.Rand { return rand.New(rand.NewPCG(6, 17)) }

// row is a key and its value.
type row struct {
	k api.Key
	v string
}

// key is a key whose first number tells it.
func key(n int) api.Key { return api.Key{n} }

// rows are rows of keys whose first numbers are the letters, each with its letter as value.
func rows(letters string) []row {
	var l []row
	for _, c := range letters {
		l = append(l, row{key(int(c)), string(c)})
	}
	return l
}

// of is a table into which rows were put, in their order.
func of(l []row) *table.Table[string] {
	t := new(table.Table[string])
	for _, r := range l {
		t.Put(r.k, r.v)
	}
	return t
}

// gone are the rows that are gone over.
func gone(s iter.Seq2[api.Key, string]) []row {
	var l []row
	for k, v := range s {
		l = append(l, row{k, v})
	}
	return l
}

// goes looks at what is gone over.
func goes(t *testing.T, what string, s iter.Seq2[api.Key, string], want []row) {
	t.Helper()
	if l := gone(s); !slices.Equal(l, want) {
		t.Errorf("%s: %v, want %v", what, l, want)
	}
}

// holds looks at all that a table tells: the rows, rising, are to be all that it has.
func holds(t *testing.T, x *table.Table[string], want []row) {
	t.Helper()
	if x.Len() != len(want) {
		t.Errorf("Len: %d, want %d", x.Len(), len(want))
	}
	var keys []api.Key
	for i, r := range want {
		keys = append(keys, r.k)
		if v, ok := x.Get(r.k); v != r.v || !ok {
			t.Errorf("Get(%v) = %q, %v, want %q", r.k, v, ok, r.v)
		}
		if k, v, ok := x.At(i); k != r.k || v != r.v || !ok {
			t.Errorf("At(%d) = %v, %q, %v, want %v", i, k, v, ok, r)
		}
		if n, there := x.Place(r.k); n != i || !there {
			t.Errorf("Place(%v) = %d, %v, want %d", r.k, n, there, i)
		}
	}
	if l := x.Keys(); !slices.Equal(l, keys) {
		t.Errorf("Keys: %v, want %v", l, keys)
	}
	goes(t, "All", x.All(), want)
	for _, i := range []int{len(want), len(want) + 1, -1, -2, math.MaxInt, math.MinInt} {
		noneAt(t, x, i)
	}
}

// noneAt looks for a number that no key is to have.
func noneAt(t *testing.T, x *table.Table[string], i int) {
	t.Helper()
	if k, v, ok := x.At(i); k != (api.Key{}) || v != "" || ok {
		t.Errorf("At(%d) = %v, %q, %v", i, k, v, ok)
	}
}

// lacks looks for a key that is not to be there, with so many below it.
func lacks(t *testing.T, x *table.Table[string], k api.Key, below int) {
	t.Helper()
	if v, ok := x.Get(k); v != "" || ok {
		t.Errorf("Get(%v) = %q, %v", k, v, ok)
	}
	if n, there := x.Place(k); n != below || there {
		t.Errorf("Place(%v) = %d, %v, want %d", k, n, there, below)
	}
	n := x.Len()
	if x.Delete(k) || x.Len() != n {
		t.Errorf("Delete(%v), Len %d, then %d", k, n, x.Len())
	}
}

// rising are keys, each below the next one.
func rising() []api.Key {
	const least, most = math.MinInt, math.MaxInt
	return []api.Key{
		{least, least, least, least}, {least, least, least, least + 1}, {least, least, least, most}, {least, most, most, most},
		{least + 1}, {-2, 9, 9, 9}, {-1, -1, -1, -1}, {-1, 0, 0, 0}, {-1, most, most, most},
		{0, least}, {0, -1, 5, 5}, {0, 0, least, most}, {0, 0, -1, 1}, {0, 0, 0, least}, {0, 0, 0, -1}, {}, {0, 0, 0, 1}, {0, 0, 0, 2}, {0, 0, 0, most},
		{0, 0, 1, 0}, {0, 0, 1, 1}, {0, 0, 2, 0}, {0, 1, 0, 0}, {0, 1, 0, 9}, {0, 2, 0, 0}, {0, 10, 0, 0},
		{1, 0, 0, 0}, {1, 2, 3, 4}, {1, 2, 3, 5}, {1, 2, 4, 0}, {1, 3, 0, 0}, {2, 0, 0, 0}, {1 << 32}, {1<<32 + 1}, {1 << 62},
		{most - 1, most, most, most}, {most, least}, {most}, {most, most, most, most - 1}, {most, most, most, most},
	}
}

// risen are those keys as rows, each with a value of its own.
func risen() []row {
	var l []row
	for i, k := range rising() {
		l = append(l, row{k, string(rune('A' + i))})
	}
	return l
}

// orders hands on the numbers below n in each order that there is.
func orders(n int, do func(order []int)) {
	var next func(order []int)
	next = func(order []int) {
		if len(order) == n {
			do(slices.Clone(order))
		}
		for i := range n {
			if !slices.Contains(order, i) {
				next(append(slices.Clone(order), i))
			}
		}
	}
	next(nil)
}

// Tb1: the first number that is not the same tells, of any two keys.
func TestTb1Compare(t *testing.T) {
	l := rising()
	for i, a := range l {
		for j, b := range l {
			n := table.Compare(a, b)
			if (n < 0) != (i < j) || (n > 0) != (i > j) {
				t.Errorf("Compare(%v, %v) = %d", a, b, n)
			}
		}
	}
}

// Tb1: a zero table has no keys.
func TestTb1Zero(t *testing.T) {
	for _, x := range []*table.Table[string]{{}, new(table.Table[string])} {
		holds(t, x, nil)
		for _, k := range rising() {
			lacks(t, x, k, 0)
			goes(t, "Range", x.Range(api.Key{}, k), nil)
		}
		holds(t, x, nil)
		holds(t, x.Clone(), nil)
		if !x.Put(key(1), "a") {
			t.Error("Put")
		}
		holds(t, x, []row{{key(1), "a"}})
	}
}

// Tb1, the chapter's example: put 2, then 1: the first one is 1.
func TestTb1Example(t *testing.T) {
	x := of([]row{{key(2), "two"}, {key(1), "one"}})
	if k, v, ok := x.At(0); k != key(1) || v != "one" || !ok {
		t.Error(k, v, ok)
	}
}

// Tb1: what is put is there, in its place, in whatever order it is put; its key was not there ahead.
func TestTb1Put(t *testing.T) {
	l := rows("abcde")
	orders(len(l), func(order []int) {
		x := new(table.Table[string])
		for n, i := range order {
			lacks(t, x, l[i].k, below(order[:n], i))
			if !x.Put(l[i].k, l[i].v) || x.Len() != n+1 {
				t.Errorf("Put of %v in %v", l[i], order)
			}
		}
		holds(t, x, l)
	})
}

// below is how many numbers are below one.
func below(l []int, n int) int {
	many := 0
	for _, i := range l {
		if i < n {
			many++
		}
	}
	return many
}

// Tb1: of a key that is there the last value holds; no other one changes.
func TestTb1PutAgain(t *testing.T) {
	l := rows("abcde")
	for i := range l {
		x := of(l)
		want := slices.Clone(l)
		for _, v := range []string{"new", "newer", "", "", l[i].v, "last"} {
			if x.Put(l[i].k, v) {
				t.Errorf("Put(%v): it was not there", l[i].k)
			}
			want[i].v = v
			holds(t, x, want)
		}
	}
}

// Tb1: what is deleted is not there, in whatever order it is deleted, and may be put again.
func TestTb1Delete(t *testing.T) {
	l := rows("abcde")
	orders(len(l), func(order []int) {
		x := of(l)
		left := slices.Clone(l)
		for _, i := range order {
			if !x.Delete(l[i].k) {
				t.Errorf("Delete of %v in %v", l[i], order)
			}
			left = slices.DeleteFunc(left, func(r row) bool { return r == l[i] })
			holds(t, x, left)
			n, _ := slices.BinarySearchFunc(left, l[i], func(a, b row) int { return table.Compare(a.k, b.k) })
			lacks(t, x, l[i].k, n)
		}
		for _, i := range order {
			if !x.Put(l[i].k, l[i].v) {
				t.Errorf("Put of %v again in %v", l[i], order)
			}
		}
		holds(t, x, l)
	})
}

// Tb1: each of the four numbers counts, the lowest and the greatest ones, too.
func TestTb1Keys(t *testing.T) {
	l := risen()
	r := chance()
	for range 30 {
		x := new(table.Table[string])
		for _, i := range r.Perm(len(l)) {
			if !x.Put(l[i].k, l[i].v) {
				t.Errorf("Put(%v)", l[i].k)
			}
		}
		holds(t, x, l)
	}
	for i, without := range l {
		left := slices.Delete(slices.Clone(l), i, i+1)
		x := of(left)
		lacks(t, x, without.k, i)
		holds(t, x, left)
	}
}

// Tb1: a key in which one number alone is another is not there.
func TestTb1Near(t *testing.T) {
	x := of([]row{{api.Key{5, 5, 5, 5}, "it"}})
	for i := range 4 {
		for _, n := range []int{math.MinInt, -5, 0, 4, 6, math.MaxInt} {
			k := api.Key{5, 5, 5, 5}
			k[i] = n
			many := 0
			if n > 5 {
				many = 1
			}
			lacks(t, x, k, many)
		}
	}
	holds(t, x, []row{{api.Key{5, 5, 5, 5}, "it"}})
}

// Tb1: a zero value is a value like others; values may be of any type.
func TestTb1Values(t *testing.T) {
	var numbers table.Table[int]
	if !numbers.Put(key(1), 0) || numbers.Put(key(1), 0) {
		t.Error("Put of 0")
	}
	if n, ok := numbers.Get(key(1)); n != 0 || !ok {
		t.Error(n, ok)
	}
	var lists table.Table[[]int]
	lists.Put(key(2), []int{1, 2})
	lists.Put(key(1), nil)
	if l, ok := lists.Get(key(2)); !slices.Equal(l, []int{1, 2}) || !ok {
		t.Error(l, ok)
	}
	if _, l, ok := lists.At(0); l != nil || !ok {
		t.Error(l, ok)
	}
	var pointers table.Table[*row]
	one := &row{v: "one"}
	pointers.Put(key(1), one)
	pointers.Put(key(0), nil)
	if p, ok := pointers.Get(key(1)); p != one || !ok {
		t.Error(p, ok)
	}
	if p, ok := pointers.Get(key(0)); p != nil || !ok {
		t.Error(p, ok)
	}
	var anything table.Table[any]
	anything.Put(key(1), func() {})
	anything.Put(key(2), []any{nil})
	if v, ok := anything.Get(key(3)); v != nil || ok || anything.Len() != 2 {
		t.Error(v, ok)
	}
	var nothing table.Table[struct{}]
	if !nothing.Put(key(1), struct{}{}) || !nothing.Delete(key(1)) || nothing.Len() != 0 {
		t.Error("a value of nothing")
	}
}

// Tb2: all keys are gone over, rising; they may be again and again.
func TestTb2All(t *testing.T) {
	for _, letters := range []string{"", "a", "ab", "abcdefgh"} {
		x := of(rows(letters))
		all := x.All()
		for range 3 {
			goes(t, "All", all, rows(letters))
		}
	}
}

// Tb2: those are gone over that are not below the first one, and below the second one, whether these are there or not.
func TestTb2Range(t *testing.T) {
	x := of(rows("bdfh"))
	for from := 'a'; from <= 'i'; from++ {
		for to := 'a'; to <= 'i'; to++ {
			var want []row
			for _, r := range rows("bdfh") {
				if r.k[0] >= int(from) && r.k[0] < int(to) {
					want = append(want, r)
				}
			}
			goes(t, string([]rune{from, '-', to}), x.Range(key(int(from)), key(int(to))), want)
		}
	}
}

// Tb2: all four numbers tell where a range begins and ends, also from the lowest key, and up to the greatest one.
func TestTb2RangeKeys(t *testing.T) {
	l := risen()
	x := of(l)
	for i, from := range l {
		for j, to := range l {
			goes(t, "Range", x.Range(from.k, to.k), l[i:max(i, j)])
		}
	}
}

// Tb2: a going over may be ended at each key; nothing is gone over behind it, and another one begins at the first key.
func TestTb2Ended(t *testing.T) {
	l := rows("abcdef")
	x := of(l)
	for what, s := range map[string]iter.Seq2[api.Key, string]{"All": x.All(), "Range": x.Range(key('a'), key('z'))} {
		for end := range l {
			var got []row
			for k, v := range s {
				got = append(got, row{k, v})
				if len(got) > end {
					break
				}
			}
			if !slices.Equal(got, l[:end+1]) {
				t.Errorf("%s ended behind %d: %v", what, end, got)
			}
		}
		calls := 0
		s(func(api.Key, string) bool { calls++; return false })
		if calls != 1 {
			t.Errorf("%s: %d calls, though the first one ended it", what, calls)
		}
	}
	holds(t, x, l)
}

// Tb2: what there was when the going over begins, not when it was asked for.
func TestTb2Begins(t *testing.T) {
	x := of(rows("bd"))
	all, some := x.All(), x.Range(key('b'), key('d'))
	x.Put(key('c'), "c")
	goes(t, "All", all, rows("bcd"))
	goes(t, "Range", some, rows("bc"))
	x.Put(key('b'), "B")
	x.Put(key('a'), "a")
	x.Delete(key('d'))
	goes(t, "All", all, []row{{key('a'), "a"}, {key('b'), "B"}, {key('c'), "c"}})
	goes(t, "Range", some, []row{{key('b'), "B"}, {key('c'), "c"}})
	x.Delete(key('a'))
	x.Delete(key('b'))
	x.Delete(key('c'))
	goes(t, "All", all, nil)
	goes(t, "Range", some, nil)
}

// changes are what may be done to a table while it is gone over; it has the letters b, d, f and h.
func changes() map[string]func(x *table.Table[string], k api.Key) {
	return map[string]func(x *table.Table[string], k api.Key){
		"delete each":    func(x *table.Table[string], k api.Key) { x.Delete(k) },
		"delete behind":  func(x *table.Table[string], k api.Key) { x.Delete(key(k[0] + 2)) },
		"delete ahead":   func(x *table.Table[string], k api.Key) { x.Delete(key(k[0] - 2)) },
		"put over each":  func(x *table.Table[string], k api.Key) { x.Put(k, "new") },
		"put over last":  func(x *table.Table[string], k api.Key) { x.Put(key('h'), "new") },
		"put between":    func(x *table.Table[string], k api.Key) { x.Put(key(k[0]+1), "new") },
		"put ahead":      func(x *table.Table[string], k api.Key) { x.Put(key(-k[0]), "new") },
		"put at the end": func(x *table.Table[string], k api.Key) { x.Put(key(1000+k[0]), "new") },
		"delete and put": func(x *table.Table[string], k api.Key) { x.Delete(key('h')); x.Put(key('g'), "new") },
		"empty it": func(x *table.Table[string], k api.Key) {
			for _, k := range x.Keys() {
				x.Delete(k)
			}
		},
		"fill it": func(x *table.Table[string], k api.Key) {
			for i := range 200 {
				x.Put(key(i), "new")
			}
		},
	}
}

// Tb2: what is put and deleted meanwhile changes nothing of what is gone over; behind it, it holds.
func TestTb2Meanwhile(t *testing.T) {
	for what, change := range changes() {
		x, plain := of(rows("bdfh")), of(rows("bdfh"))
		var got []row
		for k, v := range x.All() {
			got = append(got, row{k, v})
			change(x, k)
			change(plain, k)
		}
		if !slices.Equal(got, rows("bdfh")) {
			t.Errorf("%s: All: %v", what, got)
		}
		holds(t, x, gone(plain.All()))

		x, got = of(rows("bdfh")), nil
		for k, v := range x.Range(key('c'), key('h')) {
			got = append(got, row{k, v})
			change(x, k)
		}
		if !slices.Equal(got, rows("df")) {
			t.Errorf("%s: Range: %v", what, got)
		}
	}
}

// Tb2: so it is also of a table that was changed ahead, whose lists may have room behind their ends.
func TestTb2MeanwhileRoom(t *testing.T) {
	for what, change := range changes() {
		for many := range 70 {
			x := of(rows("bdfh"))
			for i := range many {
				x.Put(key(2000+i), "more")
			}
			for i := range many {
				x.Delete(key(2000 + i))
			}
			var got []row
			for k, v := range x.All() {
				got = append(got, row{k, v})
				change(x, k)
			}
			if !slices.Equal(got, rows("bdfh")) {
				t.Fatalf("%s behind %d: %v", what, many, got)
			}
		}
	}
}

// Tb2: one may go over a table within another going over; each goes over what there was as it began.
func TestTb2Within(t *testing.T) {
	x := of(rows("bdf"))
	var outer []row
	for k, v := range x.All() {
		outer = append(outer, row{k, v})
		began := gone(x.All())
		x.Put(key(k[0]+1), "new")
		var inner []row
		for k, v := range x.Range(key(0), key(200)) {
			inner = append(inner, row{k, v})
			x.Delete(k)
		}
		if len(inner) != len(began)+1 {
			t.Errorf("at %v: %v, ahead of it %v", k, inner, began)
		}
	}
	if !slices.Equal(outer, rows("bdf")) {
		t.Errorf("%v", outer)
	}
	holds(t, x, nil)
}

// Tb2: a clone has the same, and what is done to one is not done to the other.
func TestTb2Clone(t *testing.T) {
	for what, change := range changes() {
		x := of(rows("bdfh"))
		y := x.Clone()
		holds(t, y, rows("bdfh"))
		change(y, key('d'))
		holds(t, x, rows("bdfh"))
		changed := gone(y.All())
		z := x.Clone()
		change(x, key('d'))
		holds(t, x, changed)
		holds(t, y, changed)
		holds(t, z, rows("bdfh"))
		if slices.Equal(changed, rows("bdfh")) {
			t.Errorf("%s: nothing was changed", what)
		}
	}
}

// Tb2: two that have the same put other things into the same place: neither has what the other one has.
func TestTb2CloneSamePlace(t *testing.T) {
	for many := range 70 {
		x := new(table.Table[string])
		var l []row
		for i := range many {
			l = append(l, row{key(i), "old"})
			x.Put(key(i), "old")
		}
		y := x.Clone()
		x.Put(key(many), "x")
		y.Put(key(many), "y")
		z := y.Clone()
		z.Put(key(many), "z")
		z.Put(key(many+1), "z")
		y.Put(key(many+1), "y")
		holds(t, x, append(slices.Clone(l), row{key(many), "x"}))
		holds(t, y, append(slices.Clone(l), row{key(many), "y"}, row{key(many + 1), "y"}))
		holds(t, z, append(slices.Clone(l), row{key(many), "z"}, row{key(many + 1), "z"}))
		x.Delete(key(many))
		y.Delete(key(many + 1))
		x.Put(key(many+5), "x5")
		y.Put(key(many+5), "y5")
		holds(t, x, append(slices.Clone(l), row{key(many + 5), "x5"}))
		holds(t, y, append(slices.Clone(l), row{key(many), "y"}, row{key(many + 5), "y5"}))
		holds(t, z, append(slices.Clone(l), row{key(many), "z"}, row{key(many + 1), "z"}))
	}
}

// Tb2: a clone that is made while its table is gone over has what there is then.
func TestTb2CloneMeanwhile(t *testing.T) {
	x := of(rows("abc"))
	var clones []*table.Table[string]
	for k := range x.All() {
		x.Delete(k)
		clones = append(clones, x.Clone())
	}
	holds(t, clones[0], rows("bc"))
	holds(t, clones[1], rows("c"))
	holds(t, clones[2], nil)
}

// Tb1, Tb2 and R1: a nil table is as one without keys; nothing is put into it; its clone is a table like others.
func TestR1Nil(t *testing.T) {
	var x *table.Table[string]
	for range 2 {
		holds(t, x, nil)
		for _, k := range rising() {
			lacks(t, x, k, 0)
			if x.Put(k, "v") {
				t.Errorf("Put(%v)", k)
			}
			goes(t, "Range", x.Range(api.Key{}, k), nil)
			goes(t, "Range", x.Range(k, api.Key{}), nil)
		}
	}
	y := x.Clone()
	holds(t, y, nil)
	if !y.Put(key(1), "a") {
		t.Error("Put into the clone")
	}
	holds(t, y, []row{{key(1), "a"}})
	holds(t, x, nil)
}

// other is a table by another hand: a map.
type other map[api.Key]string

// rows are its rows, rising by their keys.
func (o other) rows() []row {
	var l []row
	for k, v := range o {
		l = append(l, row{k, v})
	}
	slices.SortFunc(l, func(a, b row) int {
		for i := range a.k {
			switch {
			case a.k[i] < b.k[i]:
				return -1
			case a.k[i] > b.k[i]:
				return 1
			}
		}
		return 0
	})
	return l
}

// anyKey is one of 81 keys by chance, so that each comes again and again.
func anyKey(r *rand.Rand) api.Key {
	var k api.Key
	for i := range k {
		k[i] = []int{math.MinInt, 0, 1}[r.IntN(3)]
	}
	return k
}

// step is one call by chance on a table, and on another hand's.
func step(t *testing.T, r *rand.Rand, x *table.Table[string], o other) {
	t.Helper()
	k := anyKey(r)
	_, was := o[k]
	if r.IntN(5) < 3 {
		v := string(rune('a' + r.IntN(26)))
		o[k] = v
		if x.Put(k, v) == was {
			t.Errorf("Put(%v): %v", k, !was)
		}
		return
	}
	delete(o, k)
	if x.Delete(k) != was {
		t.Errorf("Delete(%v): %v", k, was)
	}
}

// Tb3: whatever was put and deleted, each key is there once, with its last value, in its place; and elder clones have what they had.
func TestTb3Chance(t *testing.T) {
	r := chance()
	for walk := range 60 {
		x, o := new(table.Table[string]), other{}
		var clones []*table.Table[string]
		var kept [][]row
		for range 200 {
			step(t, r, x, o)
			if r.IntN(20) == 0 {
				clones, kept = append(clones, x.Clone()), append(kept, o.rows())
			}
			if r.IntN(20) == 0 {
				holds(t, x, o.rows())
				from, to := anyKey(r), anyKey(r)
				want := slices.DeleteFunc(o.rows(), func(a row) bool { return table.Compare(a.k, from) < 0 || table.Compare(a.k, to) >= 0 })
				goes(t, "Range", x.Range(from, to), want)
			}
			if r.IntN(50) == 0 {
				x, o = x.Clone(), maps.Clone(o)
			}
		}
		holds(t, x, o.rows())
		for i, y := range clones {
			holds(t, y, kept[i])
		}
		if t.Failed() {
			t.Fatalf("in walk %d", walk)
		}
	}
}

// Tb3: so it is while a table is gone over, at each step of it.
func TestTb3Meanwhile(t *testing.T) {
	r := chance()
	for walk := range 100 {
		x, o := new(table.Table[string]), other{}
		for range 60 {
			step(t, r, x, o)
		}
		want := o.rows()
		var got []row
		for k, v := range x.All() {
			got = append(got, row{k, v})
			for range 5 {
				step(t, r, x, o)
			}
		}
		if !slices.Equal(got, want) {
			t.Errorf("%v, want %v", got, want)
		}
		holds(t, x, o.rows())
		if t.Failed() {
			t.Fatalf("in walk %d", walk)
		}
	}
}

// R1: many keys, rising, falling and by chance, come to an end.
func TestR1Many(t *testing.T) {
	const many = 3000
	x := new(table.Table[int])
	falling := new(table.Table[int])
	mixed := new(table.Table[int])
	for i, n := range chance().Perm(many) {
		x.Put(key(i), i)
		falling.Put(key(many-1-i), many-1-i)
		mixed.Put(key(n), n)
	}
	for i := range many {
		for _, y := range []*table.Table[int]{x, falling, mixed} {
			if k, v, ok := y.At(i); k != key(i) || v != i || !ok {
				t.Fatalf("At(%d) = %v, %d, %v", i, k, v, ok)
			}
		}
	}
}

// R2: a call that only asks, and one that is refused, change nothing.
func TestR2Asks(t *testing.T) {
	x := of(rows("bdf"))
	x.Delete(key('a'))
	x.Delete(key('c'))
	x.Delete(key('g'))
	x.Get(key('c'))
	x.Place(key('c'))
	x.At(3)
	x.Keys()
	x.Clone()
	x.All()
	gone(x.Range(key('f'), key('b')))
	holds(t, x, rows("bdf"))
}

// R3: a list of keys is new memory: what is written to it, or behind its end, is not in the table, nor in another list.
func TestR3Keys(t *testing.T) {
	x := of(rows("abc"))
	x.Delete(key('c'))
	l, m := x.Keys(), x.Keys()
	l[0] = key(999)
	_ = append(l[:1], key(998), key(997))
	if !slices.Equal(m, []api.Key{key('a'), key('b')}) {
		t.Errorf("%v", m)
	}
	holds(t, x, rows("ab"))
	x.Put(key('a'), "A")
	x.Delete(key('b'))
	x.Put(key(1), "one")
	if !slices.Equal(m, []api.Key{key('a'), key('b')}) {
		t.Errorf("%v, behind what was done to the table", m)
	}
}

// R4: two tables know nothing of each other; the same calls are answered the same.
func TestR4Two(t *testing.T) {
	x, y := of(rows("ab")), of(rows("cd"))
	x.Put(key('c'), "x")
	y.Delete(key('d'))
	holds(t, x, []row{{key('a'), "a"}, {key('b'), "b"}, {key('c'), "x"}})
	holds(t, y, rows("c"))
	var told [][]row
	for range 3 {
		r, z, o := chance(), new(table.Table[string]), other{}
		for range 300 {
			step(t, r, z, o)
		}
		told = append(told, gone(z.All()))
	}
	if !slices.Equal(told[0], told[1]) || !slices.Equal(told[1], told[2]) {
		t.Errorf("%v", told)
	}
}

// Tb2: a going over that ends by a panic of who goes over leaves the table as it is.
func TestTb2Panic(t *testing.T) {
	x := of(rows("abc"))
	func() {
		defer func() {
			if recover() == nil {
				t.Error("the panic did not come through")
			}
		}()
		for k := range x.All() {
			x.Delete(k)
			panic("ended")
		}
	}()
	holds(t, x, rows("bc"))
}
