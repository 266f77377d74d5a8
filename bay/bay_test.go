package bay_test

import (
	"bottomry/api"
	"bottomry/bay"
	"math"
	"math/rand/v2"
	"reflect"
	"slices"
	"testing"
)

const (
	forge = api.SideMake
	lab   = api.SideLab
	last  = api.MaxTime
	least = math.MinInt
	most  = math.MaxInt
)

// edges are numbers at the edges of all that is looked at, good ones and wrong ones.
var edges = []int{
	least, least + 1, -1 << 62, -1 << 32, -last, -9, -8, -2, -1, 0, 1, 2, 3, 4, 7, 8, 9, 15, 16, 17, 63, 64, 65, 1 << 32, 1<<32 + 1, last - 1, last, last + 1, 1 << 61, 1 << 62, most - 1, most,
}

// chance are numbers that are the same at each run.
func chance() *rand.Rand { return rand.New(rand.NewPCG(18, 5)) }

// line is one of jobs that run, of which there are so many, and of those that wait behind them.
func line(run int, jobs ...int) api.Line { return api.Line{Run: jobs[:run], Wait: jobs[run:]} }

// row are so many numbers, from one on.
func row(first, n int) []int {
	var l []int
	for k := range n {
		l = append(l, first+k)
	}
	return l
}

// bays are so many, each with as many slots.
func bays(n, forges, labs int) []api.Bay {
	var l []api.Bay
	for range n {
		l = append(l, api.Bay{Make: forges, Lab: labs})
	}
	return l
}

// same tells whether lines are the same.
func same(a, b []api.Line) bool {
	return slices.EqualFunc(a, b, func(x, y api.Line) bool { return slices.Equal(x.Run, y.Run) && slices.Equal(x.Wait, y.Wait) })
}

// deep are the same lines in other memory.
func deep(l []api.Line) []api.Line {
	var c []api.Line
	for _, x := range l {
		c = append(c, api.Line{Run: slices.Clone(x.Run), Wait: slices.Clone(x.Wait)})
	}
	return c
}

// made are bays without jobs.
func made(t *testing.T, l ...api.Bay) *bay.Bays {
	t.Helper()
	b, e := bay.New(l)
	if e != api.OK || b == nil {
		t.Fatalf("New(%v): %v, %d", l, b, e)
	}
	return b
}

// loaded are bays with lines that there were.
func loaded(t *testing.T, l []api.Bay, lines ...api.Line) *bay.Bays {
	t.Helper()
	b, e := bay.Load(l, lines)
	if e != api.OK || b == nil {
		t.Fatalf("Load(%v, %v): %v, %d", l, lines, b, e)
	}
	return b
}

// refusesNew looks at a New that is to be refused.
func refusesNew(t *testing.T, l ...api.Bay) {
	t.Helper()
	if b, e := bay.New(l); b != nil || e != api.ErrArg {
		t.Errorf("New(%v): %v, %d, want ErrArg", l, b, e)
	}
}

// refusesLoad looks at a Load that is to be refused.
func refusesLoad(t *testing.T, l []api.Bay, lines ...api.Line) {
	t.Helper()
	if b, e := bay.Load(l, lines); b != nil || e != api.ErrArg {
		t.Errorf("Load(%v, %v): %v, %d, want ErrArg", l, lines, b, e)
	}
}

// has looks at all that bays tell: these are their lines.
func has(t *testing.T, b *bay.Bays, l []api.Bay, want ...api.Line) {
	t.Helper()
	if got := b.Lines(); !same(got, want) || len(want) != 2*len(l) {
		t.Fatalf("Lines: %v, want %v", got, want)
	}
	there := map[int]bool{}
	for k, x := range want {
		slots := []int{l[k/2].Make, l[k/2].Lab}[k%2]
		frees(t, b, k/2+1, k%2, slots-len(x.Run), api.OK)
		for _, job := range x.Run {
			stands(t, b, job, k/2+1, k%2, -1)
			there[job] = true
		}
		for ahead, job := range x.Wait {
			stands(t, b, job, k/2+1, k%2, ahead)
			there[job] = true
		}
	}
	for _, job := range edges {
		if there[job] {
			continue
		}
		if at, side, ahead, e := b.Where(job); at != 0 || side != 0 || ahead != 0 || e != api.ErrNone {
			t.Errorf("Where(%d): %d, %d, %d, %d, want ErrNone", job, at, side, ahead, e)
		}
	}
}

// stands looks at where a job is.
func stands(t *testing.T, b *bay.Bays, job, wantBay, wantSide, wantAhead int) {
	t.Helper()
	if at, side, ahead, e := b.Where(job); at != wantBay || side != wantSide || ahead != wantAhead || e != api.OK {
		t.Errorf("Where(%d): %d, %d, %d, %d, want %d, %d, %d", job, at, side, ahead, e, wantBay, wantSide, wantAhead)
	}
}

// frees looks at a Free, and its answer.
func frees(t *testing.T, b *bay.Bays, at, side, want int, wantErr api.Errno) {
	t.Helper()
	if n, e := b.Free(at, side); n != want || e != wantErr {
		t.Errorf("Free(%d, %d): %d, %d, want %d, %d", at, side, n, e, want, wantErr)
	}
}

// asks looks at an Ask, and its answer.
func asks(t *testing.T, b *bay.Bays, at, side, job int, want bool, wantErr api.Errno) {
	t.Helper()
	if runs, e := b.Ask(at, side, job); runs != want || e != wantErr {
		t.Errorf("Ask(%d, %d, %d): %v, %d, want %v, %d", at, side, job, runs, e, want, wantErr)
	}
}

// leaves looks at a Leave, and its answer.
func leaves(t *testing.T, b *bay.Bays, job, want int, wantErr api.Errno) {
	t.Helper()
	if n, e := b.Leave(job); n != want || e != wantErr {
		t.Errorf("Leave(%d): %d, %d, want %d, %d", job, n, e, want, wantErr)
	}
}

// By1: new bays have no jobs; there may be none to MaxBays of them, with 0 to MaxSlots slots at each side.
func TestBy1New(t *testing.T) {
	for n := range 9 {
		for _, l := range [][]api.Bay{bays(n, 0, 0), bays(n, 8, 8), bays(n, 1, 0), bays(n, 0, 1), bays(n, 3, 5)} {
			has(t, made(t, l...), l, make([]api.Line, 2*n)...)
			has(t, loaded(t, l, make([]api.Line, 2*n)...), l, make([]api.Line, 2*n)...)
		}
	}
	for _, n := range []int{9, 10, 64, 1000} {
		refusesNew(t, bays(n, 1, 1)...)
		refusesLoad(t, bays(n, 1, 1), make([]api.Line, 2*n)...)
	}
	has(t, made(t), nil)
	has(t, made(t, []api.Bay{}...), nil)
}

// By1: each side of each bay may have 0 to MaxSlots slots, and no other number; where a bay is, and what it takes, is not looked at.
func TestBy1NewEdges(t *testing.T) {
	for _, n := range edges {
		for k := range 8 {
			for side := range 2 {
				l := bays(8, 2, 1)
				l[k] = []api.Bay{{Make: n, Lab: 3}, {Make: 3, Lab: n}}[side]
				if n < 0 || n > 8 {
					refusesNew(t, l...)
					refusesNew(t, l[:k+1]...)
					refusesLoad(t, l, make([]api.Line, 16)...)
					continue
				}
				has(t, made(t, l...), l, make([]api.Line, 16)...)
				has(t, made(t, l[:k+1]...), l[:k+1], make([]api.Line, 2*k+2)...)
			}
		}
		l := []api.Bay{{Place: n, Make: 1, Lab: 2, Rate: n}}
		has(t, made(t, l...), l, api.Line{}, api.Line{})
	}
}

// By1: lines that are loaded are there, of each bay SideMake's first.
func TestBy1Load(t *testing.T) {
	two := []api.Bay{{Make: 2, Lab: 3}, {Make: 0, Lab: 1}}
	for _, lines := range [][]api.Line{
		{{}, {}, {}, {}},
		{line(1, 5), {}, {}, {}},
		{line(2, 5, 9), {}, {}, {}},
		{line(2, 5, 9, 7, 1, 6), {}, {}, {}},
		{line(0), line(3, 5, 7, 9), line(0), line(1, 6)},
		{line(1, 4), line(3, 5, 7, 9, 8), line(0), line(1, 6, 3, 2)},
		{line(2, 1, last, last-1, 2), line(1, 3), line(0), line(0)},
		{line(2, 20, 21, 9, 8, 7, 6, 5, 4, 3, 2), line(3, 30, 31, 32, 10, 19, 11, 18, 12, 17, 13, 16), {}, line(1, 1, 40, 42, 44, 46, 41, 43, 45, 47)},
	} {
		b := loaded(t, two, lines...)
		has(t, b, two, lines...)
		has(t, loaded(t, two, b.Lines()...), two, lines...)
	}
	has(t, loaded(t, nil), nil)
	has(t, loaded(t, []api.Bay{}, []api.Line{}...), nil)
	has(t, loaded(t, bays(1, 1, 0), api.Line{Run: []int{}, Wait: []int{}}, api.Line{Run: []int{}, Wait: nil}), bays(1, 1, 0), api.Line{}, api.Line{})
}

// By1: there are two lines for each bay.
func TestBy1LoadLines(t *testing.T) {
	for n := range 9 {
		for lines := range 20 {
			if l := make([]api.Line, lines); lines != 2*n {
				refusesLoad(t, bays(n, 1, 1), l...)
			} else {
				has(t, loaded(t, bays(n, 1, 1), l...), bays(n, 1, 1), l...)
			}
		}
	}
}

// By1: a job's number is 1 to MaxTime, of those that run and of those that wait.
func TestBy1LoadNumbers(t *testing.T) {
	l := bays(2, 1, 1)
	for _, job := range edges {
		for k := range 4 {
			for _, x := range []api.Line{line(1, job), line(1, 5, job), line(1, 5, 6, job)} {
				lines := make([]api.Line, 4)
				lines[k] = x
				if job < 1 || job > 1<<40 {
					refusesLoad(t, l, lines...)
				} else {
					has(t, loaded(t, l, lines...), l, lines...)
				}
			}
		}
	}
}

// By1: no job stands there twice, at whichever sides, and whether it runs or waits.
func TestBy1LoadTwice(t *testing.T) {
	l := bays(2, 2, 2)
	full := []api.Line{line(2, 1, 2, 3, 4), line(2, 5, 6, 7, 8), line(2, 9, 10, 11, 12), line(2, 13, 14, 15, 16)}
	has(t, loaded(t, l, full...), l, full...)
	at := func(k int) int { return append(slices.Clone(full[k/4].Run), full[k/4].Wait...)[k%4] }
	for k := range 16 {
		for i := range 16 {
			if i == k {
				continue
			}
			lines, job := deep(full), at(i)
			if k%4 < 2 {
				lines[k/4].Run[k%4] = job
			} else {
				lines[k/4].Wait[k%4-2] = job
			}
			slices.Sort(lines[k/4].Run)
			refusesLoad(t, l, lines...)
		}
	}
}

// By1: no more run at a side than may, and they rise.
func TestBy1LoadRun(t *testing.T) {
	for slots := range 9 {
		for run := range 12 {
			for _, k := range []int{0, 1} {
				l := []api.Bay{{Make: 8, Lab: slots}}
				if k == 0 {
					l = []api.Bay{{Make: slots, Lab: 8}}
				}
				lines := []api.Line{{}, {}}
				lines[k].Run = row(3, run)
				if run > slots {
					refusesLoad(t, l, lines...)
					continue
				}
				has(t, loaded(t, l, lines...), l, lines...)
				for i := 1; i < run; i++ {
					wrong := deep(lines)
					wrong[k].Run[i-1], wrong[k].Run[i] = wrong[k].Run[i], wrong[k].Run[i-1]
					refusesLoad(t, l, wrong...)
					wrong[k].Run[i-1], wrong[k].Run[i] = lines[k].Run[i], lines[k].Run[i]
					refusesLoad(t, l, wrong...)
				}
			}
		}
	}
}

// By1: at most MaxWait wait, in whichever order, and none while fewer run than may, nor where none may.
func TestBy1LoadWait(t *testing.T) {
	for slots := range 9 {
		for run := range slots + 1 {
			for wait := range 12 {
				for _, k := range []int{0, 1} {
					l := []api.Bay{{Make: 8, Lab: slots}}
					if k == 0 {
						l = []api.Bay{{Make: slots, Lab: 8}}
					}
					lines := []api.Line{{}, {}}
					lines[k] = api.Line{Run: row(30, run), Wait: row(10, wait)}
					slices.Reverse(lines[k].Wait)
					if wait > 8 || wait > 0 && (run < slots || slots == 0) {
						refusesLoad(t, l, lines...)
					} else {
						has(t, loaded(t, l, lines...), l, lines...)
					}
				}
			}
		}
	}
}

// lists are all of at most so many numbers, 0 to most.
func lists(n, most int) [][]int {
	all := [][]int{nil}
	for k := 0; k < len(all); k++ {
		if len(all[k]) == n {
			continue
		}
		for x := range most + 1 {
			all = append(all, append(slices.Clone(all[k]), x))
		}
	}
	return all
}

// may tells by another hand whether lines of bays may be.
func may(l []api.Bay, lines []api.Line) bool {
	if len(l) > 8 || len(lines) != 2*len(l) {
		return false
	}
	count := map[int]int{}
	for k, x := range lines {
		slots := l[k/2].Make
		if k%2 == 1 {
			slots = l[k/2].Lab
		}
		if slots < 0 || slots > 8 || len(x.Run) > slots || len(x.Wait) > 8 || len(x.Wait) > 0 && (slots == 0 || len(x.Run) != slots) {
			return false
		}
		for i := 1; i < len(x.Run); i++ {
			if x.Run[i] <= x.Run[i-1] {
				return false
			}
		}
		for _, job := range append(slices.Clone(x.Run), x.Wait...) {
			if count[job]++; count[job] > 1 || job <= 0 || job > 1<<40 {
				return false
			}
		}
	}
	return true
}

// By1: of all small lines, those are loaded that another hand says may be.
func TestBy1LoadAll(t *testing.T) {
	small, kept := lists(3, 5), 0
	for _, second := range []api.Line{{}, line(1, 5), line(1, 5, 4), line(0, 5)} {
		for slots := range 4 {
			l := []api.Bay{{Make: slots, Lab: 1}}
			for _, run := range small {
				for _, wait := range small {
					lines := []api.Line{{Run: run, Wait: wait}, second}
					want, wantErr := lines, api.OK
					if !may(l, lines) {
						want, wantErr = nil, api.ErrArg
					} else {
						kept++
					}
					b, e := bay.Load(l, lines)
					if !same(b.Lines(), want) || e != wantErr || (b == nil) != (want == nil) {
						t.Fatalf("Load(%v, %v): %v, %d, want %v", l, lines, b, e, want)
					}
				}
			}
		}
	}
	if kept < 200 {
		t.Error(kept)
	}
}

// By2: a job runs while there is room, and waits behind all others where there is none.
func TestBy2Ask(t *testing.T) {
	l := []api.Bay{{Make: 2, Lab: 1}, {Make: 1, Lab: 0}}
	b := made(t, l...)
	asks(t, b, 1, forge, 9, true, api.OK)
	has(t, b, l, line(1, 9), line(0), line(0), line(0))
	asks(t, b, 1, forge, 4, true, api.OK)
	has(t, b, l, line(2, 4, 9), line(0), line(0), line(0))
	asks(t, b, 1, forge, 7, false, api.OK)
	asks(t, b, 1, forge, 2, false, api.OK)
	asks(t, b, 1, forge, 8, false, api.OK)
	has(t, b, l, line(2, 4, 9, 7, 2, 8), line(0), line(0), line(0))
	asks(t, b, 1, lab, last, true, api.OK)
	asks(t, b, 1, lab, 1, false, api.OK)
	asks(t, b, 2, forge, 5, true, api.OK)
	asks(t, b, 2, forge, 3, false, api.OK)
	asks(t, b, 2, lab, 6, false, api.ErrSlots)
	has(t, b, l, line(2, 4, 9, 7, 2, 8), line(1, last, 1), line(1, 5, 3), line(0))
}

// By2: those that run stand there by rising numbers, in whatever order they came.
func TestBy2AskOrder(t *testing.T) {
	for _, order := range lists(4, 3) {
		if len(order) < 4 || !slices.Equal(slices.Compact(slices.Sorted(slices.Values(order))), row(0, 4)) {
			continue
		}
		l := bays(1, 4, 0)
		b := made(t, l...)
		var want []int
		for _, k := range order {
			asks(t, b, 1, forge, 5+k, true, api.OK)
			want = append(want, 5+k)
			slices.Sort(want)
			has(t, b, l, line(len(want), want...), line(0))
		}
	}
}

// By2: at a side with slots MaxWait jobs wait, and no more; where none may run none waits.
func TestBy2AskSlots(t *testing.T) {
	for slots := range 9 {
		l := bays(1, 0, slots)
		b := made(t, l...)
		room := slots + 8
		if slots == 0 {
			room = 0
		}
		var want []int
		for job := range row(0, 20) {
			switch {
			case job < slots:
				asks(t, b, 1, lab, 100+job, true, api.OK)
			case job < room:
				asks(t, b, 1, lab, 100+job, false, api.OK)
			default:
				asks(t, b, 1, lab, 100+job, false, api.ErrSlots)
				has(t, b, l, line(0), line(slots, want...))
				continue
			}
			want = append(want, 100+job)
			has(t, b, l, line(0), line(min(slots, len(want)), want...))
		}
		// One that waits there, or runs, is told ahead of that there is no room.
		for _, job := range want {
			asks(t, b, 1, lab, job, false, api.ErrState)
			asks(t, b, 1, forge, job, false, api.ErrState)
		}
		has(t, b, l, line(0), line(slots, want...))
	}
}

// By2: Ask is refused by the first of its errors, and changes nothing.
func TestBy2AskWrong(t *testing.T) {
	l := []api.Bay{{Make: 1, Lab: 0}, {Make: 1, Lab: 2}}
	lines := []api.Line{{Run: []int{50}, Wait: row(10, 8)}, line(0), line(1, 51, 52), line(1, 53)}
	b := loaded(t, l, lines...)
	for k, x := range []struct {
		bay, side, job int
		want           api.Errno
	}{
		{0, 0, 1, api.ErrNone}, {3, 0, 1, api.ErrNone}, {-1, 0, 1, api.ErrNone}, {least, 0, 1, api.ErrNone}, {most, 1, 1, api.ErrNone}, {1 << 32, 0, 1, api.ErrNone}, {1<<32 + 1, 0, 1, api.ErrNone}, {1<<62 + 1, 0, 1, api.ErrNone},
		{1, -1, 1, api.ErrNone}, {1, 2, 1, api.ErrNone}, {2, -1, 1, api.ErrNone}, {2, 2, 1, api.ErrNone}, {2, least, 1, api.ErrNone}, {2, most, 1, api.ErrNone}, {1, 3, 1, api.ErrNone},
		{0, 0, 0, api.ErrNone}, {3, 0, -1, api.ErrNone}, {2, 2, last + 1, api.ErrNone}, {0, 0, 50, api.ErrNone}, {1, 2, 51, api.ErrNone}, {3, 3, least, api.ErrNone},
		{2, 1, 0, api.ErrArg}, {2, 1, -1, api.ErrArg}, {2, 1, last + 1, api.ErrArg}, {2, 1, least, api.ErrArg}, {2, 1, most, api.ErrArg}, {1, 0, 0, api.ErrArg}, {1, 1, -5, api.ErrArg}, {1, 1, last + 1, api.ErrArg},
		{2, 1, 50, api.ErrState}, {2, 1, 10, api.ErrState}, {2, 1, 17, api.ErrState}, {2, 1, 51, api.ErrState}, {2, 1, 52, api.ErrState}, {2, 1, 53, api.ErrState},
		{1, 0, 50, api.ErrState}, {1, 0, 17, api.ErrState}, {1, 1, 53, api.ErrState}, {1, 1, 52, api.ErrState}, {1, 0, 53, api.ErrState},
		{1, 0, 1, api.ErrSlots}, {1, 1, 1, api.ErrSlots}, {1, 0, last, api.ErrSlots}, {1, 1, last, api.ErrSlots},
	} {
		if runs, e := b.Ask(x.bay, x.side, x.job); runs || e != x.want {
			t.Errorf("%d: Ask(%d, %d, %d): %v, %d, want %d", k, x.bay, x.side, x.job, runs, e, x.want)
		}
		has(t, b, l, lines...)
	}
	asks(t, b, 2, lab, 1, true, api.OK)
	asks(t, b, 2, lab, last, false, api.OK)
	lines[3] = line(2, 1, 53, last)
	has(t, b, l, lines...)
}

// By2: when one that ran leaves, the first one that waits runs; when one that waited leaves, none does.
func TestBy2Leave(t *testing.T) {
	l := bays(1, 2, 1)
	b := loaded(t, l, line(2, 4, 9, 7, 2, 8, 1), line(1, 3, 6))
	leaves(t, b, 8, 0, api.OK)
	has(t, b, l, line(2, 4, 9, 7, 2, 1), line(1, 3, 6))
	leaves(t, b, 4, 7, api.OK)
	has(t, b, l, line(2, 7, 9, 2, 1), line(1, 3, 6))
	leaves(t, b, 9, 2, api.OK)
	has(t, b, l, line(2, 2, 7, 1), line(1, 3, 6))
	leaves(t, b, 1, 0, api.OK)
	leaves(t, b, 7, 0, api.OK)
	has(t, b, l, line(1, 2), line(1, 3, 6))
	leaves(t, b, 6, 0, api.OK)
	leaves(t, b, 3, 0, api.OK)
	leaves(t, b, 2, 0, api.OK)
	has(t, b, l, line(0), line(0))
	leaves(t, b, 2, 0, api.ErrNone)
	// What is gone may ask again, also elsewhere, and stands behind all others.
	asks(t, b, 1, lab, 4, true, api.OK)
	asks(t, b, 1, lab, 3, false, api.OK)
	leaves(t, b, 4, 3, api.OK)
	asks(t, b, 1, lab, 4, false, api.OK)
	has(t, b, l, line(0), line(1, 3, 4))
}

// By2: who is at no side does not leave, whatever the number.
func TestBy2LeaveWrong(t *testing.T) {
	l := bays(2, 1, 1)
	lines := []api.Line{line(1, 100, 101), line(1, 102), {}, line(1, 103, 104, 105)}
	b := loaded(t, l, lines...)
	for _, job := range edges {
		leaves(t, b, job, 0, api.ErrNone)
	}
	for _, job := range []int{99, 106} {
		leaves(t, b, job, 0, api.ErrNone)
	}
	has(t, b, l, lines...)
	for _, job := range edges {
		leaves(t, made(t), job, 0, api.ErrNone)
	}
}

// By2: a line of all that may be there empties as it came, from whichever one on.
func TestBy2LeaveFull(t *testing.T) {
	for slots := 1; slots <= 8; slots++ {
		l := bays(1, slots, 0)
		full := row(1, slots+8)
		for _, job := range full {
			b := loaded(t, l, line(slots, full...), line(0))
			rest := slices.DeleteFunc(slices.Clone(full), func(x int) bool { return x == job })
			next := 0
			if job <= slots {
				next = slots + 1
			}
			leaves(t, b, job, next, api.OK)
			has(t, b, l, line(slots, rest...), line(0))
			asks(t, b, 1, forge, job, false, api.OK)
			asks(t, b, 1, forge, 99, false, api.ErrSlots)
			has(t, b, l, line(slots, append(rest, job)...), line(0))
		}
	}
}

// By2: Where tells the bay, the side, and how many wait ahead; how many run is not counted.
func TestBy2Where(t *testing.T) {
	l := bays(8, 2, 3)
	var lines []api.Line
	for k := range 8 {
		lines = append(lines, line(2, row(100+20*k, 4+k%7)...), line(3, row(500+20*k, 3+k)...))
	}
	b := loaded(t, l, lines...)
	has(t, b, l, lines...)
	stands(t, b, 100, 1, 0, -1)
	stands(t, b, 102, 1, 0, 0)
	stands(t, b, 103, 1, 0, 1)
	stands(t, b, 641, 8, 1, -1)
	stands(t, b, 649, 8, 1, 6)
}

// By2: Free tells how many more may run; no other side of no other bay is there.
func TestBy2Free(t *testing.T) {
	l := []api.Bay{{Make: 8, Lab: 0}, {Make: 3, Lab: 1}}
	b := loaded(t, l, line(5, 1, 2, 3, 4, 5), line(0), line(0), line(1, 6, 7))
	frees(t, b, 1, 0, 3, api.OK)
	frees(t, b, 1, 1, 0, api.OK)
	frees(t, b, 2, 0, 3, api.OK)
	frees(t, b, 2, 1, 0, api.OK)
	for _, at := range edges {
		for _, side := range edges {
			if at < 1 || at > 2 || side < 0 || side > 1 {
				frees(t, b, at, side, 0, api.ErrNone)
				asks(t, b, at, side, 70, false, api.ErrNone)
			}
		}
	}
	has(t, b, l, line(5, 1, 2, 3, 4, 5), line(0), line(0), line(1, 6, 7))
	frees(t, made(t), 1, 0, 0, api.ErrNone)
	asks(t, made(t), 1, 0, 1, false, api.ErrNone)
}

// By2: a clone has the same, and goes its own way, and so does what was cloned.
func TestBy2Clone(t *testing.T) {
	l := bays(2, 2, 1)
	lines := []api.Line{line(2, 4, 9, 7, 2), line(1, 3), line(1, 5), line(1, 6, 8)}
	b := loaded(t, l, lines...)
	c := b.Clone()
	has(t, c, l, lines...)
	leaves(t, b, 9, 7, api.OK)
	asks(t, b, 1, forge, 1, false, api.OK)
	asks(t, b, 2, forge, 2, false, api.ErrState)
	has(t, c, l, lines...)
	leaves(t, c, 7, 0, api.OK)
	asks(t, c, 2, forge, 1, true, api.OK)
	leaves(t, c, 6, 8, api.OK)
	has(t, b, l, line(2, 4, 7, 2, 1), line(1, 3), line(1, 5), line(1, 6, 8))
	has(t, c, l, line(2, 4, 9, 2), line(1, 3), line(2, 1, 5), line(1, 8))
	d := c.Clone()
	leaves(t, d, 4, 2, api.OK)
	leaves(t, d, 1, 0, api.OK)
	asks(t, d, 2, lab, 4, false, api.OK)
	has(t, c, l, line(2, 4, 9, 2), line(1, 3), line(2, 1, 5), line(1, 8))
	has(t, d, l, line(2, 2, 9), line(1, 3), line(1, 5), line(1, 8, 4))
	// Where one waited that is cut off, another one asks, in each of them.
	leaves(t, b, 4, 2, api.OK)
	e := b.Clone()
	asks(t, b, 1, forge, 20, false, api.OK)
	asks(t, e, 1, forge, 30, false, api.OK)
	has(t, b, l, line(2, 2, 7, 1, 20), line(1, 3), line(1, 5), line(1, 6, 8))
	has(t, e, l, line(2, 2, 7, 1, 30), line(1, 3), line(1, 5), line(1, 6, 8))
	none := made(t).Clone()
	if none == nil {
		t.Fatal("no clone")
	}
	has(t, none, nil)
	leaves(t, none, 1, 0, api.ErrNone)
}

// By2, R1: bays that New and Load did not give answer ErrArg, or nothing; they have no clone.
func TestBy2NotGiven(t *testing.T) {
	for _, b := range []*bay.Bays{nil, {}, new(bay.Bays)} {
		for _, x := range edges {
			for _, y := range edges {
				asks(t, b, x, y, 1, false, api.ErrArg)
				asks(t, b, 1, x, y, false, api.ErrArg)
				frees(t, b, x, y, 0, api.ErrArg)
			}
			leaves(t, b, x, 0, api.ErrArg)
			if at, side, ahead, e := b.Where(x); at != 0 || side != 0 || ahead != 0 || e != api.ErrArg {
				t.Error(at, side, ahead, e)
			}
		}
		if l, c := b.Lines(), b.Clone(); len(l) != 0 || c != nil {
			t.Error(l, c)
		}
	}
}

// other are bays by another hand: a list of all jobs as they came. Of a side the first ones run, as many as may.
type other struct {
	bays []api.Bay
	come []arrival
}

// arrival is a job that came to a side.
type arrival struct{ job, at, side int }

func (o *other) clone() *other { return &other{o.bays, slices.Clone(o.come)} }

// slots is how many may run at a side.
func (o *other) slots(at, side int) int {
	if side == 0 {
		return o.bays[at-1].Make
	}
	return o.bays[at-1].Lab
}

// jobs are those of a side, as they came.
func (o *other) jobs(at, side int) []int {
	var l []int
	for _, x := range o.come {
		if x.at == at && x.side == side {
			l = append(l, x.job)
		}
	}
	return l
}

// line is that of a side.
func (o *other) line(at, side int) api.Line {
	jobs := o.jobs(at, side)
	n := min(len(jobs), o.slots(at, side))
	return api.Line{Run: slices.Sorted(slices.Values(jobs[:n])), Wait: jobs[n:]}
}

func (o *other) lines() []api.Line {
	var l []api.Line
	for k := range o.bays {
		l = append(l, o.line(k+1, 0), o.line(k+1, 1))
	}
	return l
}

// index is where a job stands among all; -1, if it is not there.
func (o *other) index(job int) int {
	return slices.IndexFunc(o.come, func(x arrival) bool { return x.job == job })
}

func (o *other) where(job int) (at, side, ahead int, e api.Errno) {
	i := o.index(job)
	if i < 0 {
		return 0, 0, 0, api.ErrNone
	}
	at, side = o.come[i].at, o.come[i].side
	return at, side, max(-1, slices.Index(o.jobs(at, side), job)-o.slots(at, side)), api.OK
}

func (o *other) free(at, side int) (int, api.Errno) {
	if at <= 0 || at > len(o.bays) || side < 0 || side > 1 {
		return 0, api.ErrNone
	}
	return max(0, o.slots(at, side)-len(o.jobs(at, side))), api.OK
}

func (o *other) ask(at, side, job int) (bool, api.Errno) {
	free, e := o.free(at, side)
	switch {
	case e != api.OK:
		return false, e
	case job <= 0 || job > 1<<40:
		return false, api.ErrArg
	case o.index(job) >= 0:
		return false, api.ErrState
	case o.slots(at, side) == 0 || len(o.jobs(at, side)) == o.slots(at, side)+8:
		return false, api.ErrSlots
	}
	o.come = append(o.come, arrival{job, at, side})
	return free > 0, api.OK
}

func (o *other) leave(job int) (int, api.Errno) {
	at, side, ahead, e := o.where(job)
	if e != api.OK {
		return 0, e
	}
	o.come = slices.Delete(o.come, o.index(job), o.index(job)+1)
	if jobs, n := o.jobs(at, side), o.slots(at, side); ahead < 0 && len(jobs) >= n {
		return jobs[n-1], api.OK
	}
	return 0, api.OK
}

// agree tells whether both have the same lines.
func agree(b *bay.Bays, o *other) bool { return same(b.Lines(), o.lines()) }

// By2, By3: whatever few calls there are in a row, they are answered as another hand says.
func TestBy2Rows(t *testing.T) {
	for _, l := range [][]api.Bay{{{Make: 1, Lab: 0}}, {{Make: 1, Lab: 1}}, {{Make: 2, Lab: 1}}} {
		var goOn func(b *bay.Bays, o *other, left int)
		goOn = func(b *bay.Bays, o *other, left int) {
			if left == 0 {
				return
			}
			for job := 1; job <= 4; job++ {
				for side := range 2 {
					c, p := b.Clone(), o.clone()
					got, e := c.Ask(1, side, job)
					want, wantErr := p.ask(1, side, job)
					if got != want || e != wantErr || !agree(c, p) {
						t.Fatalf("Ask(1, %d, %d) of %v: %v, %d, %v, want %v, %d, %v", side, job, o.lines(), got, e, c.Lines(), want, wantErr, p.lines())
					}
					if e == api.OK {
						goOn(c, p, left-1)
					}
				}
				c, p := b.Clone(), o.clone()
				got, e := c.Leave(job)
				want, wantErr := p.leave(job)
				if got != want || e != wantErr || !agree(c, p) {
					t.Fatalf("Leave(%d) of %v: %d, %d, %v, want %d, %d, %v", job, o.lines(), got, e, c.Lines(), want, wantErr, p.lines())
				}
				if e == api.OK {
					goOn(c, p, left-1)
				}
			}
			if !agree(b, o) {
				t.Fatalf("a clone changed %v: %v", o.lines(), b.Lines())
			}
		}
		goOn(made(t, l...), &other{bays: l}, 5)
	}
}

// number is one by chance: mostly from a few, else one at the edges.
func number(r *rand.Rand, first, n int) int {
	if r.IntN(40) == 0 {
		return edges[r.IntN(len(edges))]
	}
	return first + r.IntN(n)
}

// begun looks at By3 itself: in which order jobs came to each side, and which of them have begun to run.
type begun struct {
	came map[[2]int][]int
	runs map[int]bool
}

// begins has a job run: it is to be the first one that waited.
func (g *begun) begins(t *testing.T, at, side, job int) {
	t.Helper()
	for _, x := range g.came[[2]int{at, side}] {
		if !g.runs[x] && x != job {
			t.Fatalf("%d runs ahead of %d", job, x)
		}
		if x == job {
			break
		}
	}
	g.runs[job] = true
}

// goes has a job be gone.
func (g *begun) goes(at, side, job int) {
	key := [2]int{at, side}
	g.came[key] = slices.DeleteFunc(g.came[key], func(x int) bool { return x == job })
	delete(g.runs, job)
}

// roomy looks at that nobody waits while there is room, or where none may run, and that no more run than may.
func roomy(t *testing.T, b *bay.Bays, l []api.Bay) {
	t.Helper()
	for k, x := range b.Lines() {
		slots := []int{l[k/2].Make, l[k/2].Lab}[k%2]
		if len(x.Run) > slots || len(x.Wait) > 8 || len(x.Wait) > 0 && (len(x.Run) < slots || slots == 0) {
			t.Fatalf("%d slots: %v", slots, x)
		}
	}
}

// By2, By3: calls by chance are answered as another hand says; nobody waits while there is room; jobs begin as they came; what is refused changes nothing.
func TestBy3Chance(t *testing.T) {
	r := chance()
	told := map[string]map[api.Errno]int{"Ask": {}, "Leave": {}}
	for range 300 {
		var l []api.Bay
		for range 1 + r.IntN(3) {
			l = append(l, api.Bay{Make: r.IntN(4), Lab: r.IntN(3)})
		}
		b, o, g := made(t, l...), &other{bays: l}, &begun{map[[2]int][]int{}, map[int]bool{}}
		for range 200 {
			ahead, kept := b.Lines(), b.Clone()
			job := number(r, 1, 40)
			if r.IntN(3) > 0 {
				at, side := number(r, 1, len(l)), number(r, 0, 2)
				got, e := b.Ask(at, side, job)
				if want, wantErr := o.ask(at, side, job); got != want || e != wantErr {
					t.Fatalf("Ask(%d, %d, %d) of %v: %v, %d, want %v, %d", at, side, job, ahead, got, e, want, wantErr)
				}
				if told["Ask"][e]++; e == api.OK {
					g.came[[2]int{at, side}] = append(g.came[[2]int{at, side}], job)
				}
				if got {
					g.begins(t, at, side, job)
				}
				if e != api.OK && !same(b.Lines(), ahead) {
					t.Fatalf("Ask was refused: %v, ahead %v", b.Lines(), ahead)
				}
			} else {
				at, side, _, _ := b.Where(job)
				got, e := b.Leave(job)
				if want, wantErr := o.leave(job); got != want || e != wantErr {
					t.Fatalf("Leave(%d) of %v: %d, %d, want %d, %d", job, ahead, got, e, want, wantErr)
				}
				if told["Leave"][e]++; e == api.OK {
					g.goes(at, side, job)
				}
				if got != 0 {
					g.begins(t, at, side, got)
				}
			}
			if !agree(b, o) || !same(kept.Lines(), ahead) {
				t.Fatalf("%v, want %v; a clone: %v, want %v", b.Lines(), o.lines(), kept.Lines(), ahead)
			}
			roomy(t, b, l)
		}
		has(t, b, l, o.lines()...)
		for _, job := range append(edges, row(1, 40)...) {
			at, side, ahead, e := b.Where(job)
			if i, j, k, f := o.where(job); at != i || side != j || ahead != k || e != f {
				t.Fatalf("Where(%d) of %v: %d, %d, %d, %d", job, o.lines(), at, side, ahead, e)
			}
		}
		has(t, loaded(t, l, o.lines()...), l, o.lines()...)
	}
	for what, l := range map[string][]api.Errno{
		"Ask":   {api.OK, api.ErrNone, api.ErrArg, api.ErrState, api.ErrSlots},
		"Leave": {api.OK, api.ErrNone},
	} {
		for _, e := range l {
			if told[what][e] < 100 {
				t.Errorf("%s answered %d %d times alone", what, e, told[what][e])
			}
		}
	}
}

// By3: jobs of a side begin in the order in which they came, whoever leaves meanwhile, and however many come behind.
func TestBy3Order(t *testing.T) {
	for slots := 1; slots <= 8; slots++ {
		l := bays(1, slots, 0)
		b := made(t, l...)
		for job := 1; job <= slots+8; job++ {
			asks(t, b, 1, forge, job, job <= slots, api.OK)
		}
		for job := 1; job <= 1000; job++ {
			asks(t, b, 1, forge, job+slots+8, false, api.ErrSlots)
			leaves(t, b, job, job+slots, api.OK)
			asks(t, b, 1, forge, job+slots+8, false, api.OK)
		}
		has(t, b, l, line(slots, row(1001, slots+8)...), line(0))
	}
}

// Example 1: with one slot 1 runs, 2 and 3 wait; 1 leaves, and 2 runs.
func TestExample(t *testing.T) {
	l := bays(1, 1, 0)
	b := made(t, l...)
	asks(t, b, 1, forge, 1, true, api.OK)
	asks(t, b, 1, forge, 2, false, api.OK)
	asks(t, b, 1, forge, 3, false, api.OK)
	leaves(t, b, 1, 2, api.OK)
	has(t, b, l, line(1, 2, 3), line(0))
}

// R3: lists that are handed in are not changed, not kept, and not read beyond their ends.
func TestR3Load(t *testing.T) {
	room := []api.Bay{{Make: 1, Lab: 0}, {Make: 2, Lab: 1}, {Make: -1, Lab: 9}}
	run, wait := []int{5, 0, -1}, []int{7, 3, 7, 7}
	lines := []api.Line{{Run: run[:1], Wait: wait[:2]}, {}, {Run: []int{6, 8}}, {}, {Run: []int{0}}}
	keptRoom, keptLines := slices.Clone(room), deep(lines)
	want := []api.Line{line(1, 5, 7, 3), {}, line(2, 6, 8), {}}
	n, b := made(t, room[:2]...), loaded(t, room[:2], lines[:4]...)
	l := slices.Clone(room[:2])
	has(t, b, l, want...)
	asks(t, b, 1, forge, 9, false, api.OK)
	leaves(t, b, 5, 7, api.OK)
	leaves(t, b, 6, 0, api.OK)
	asks(t, b, 2, forge, 1, true, api.OK)
	asks(t, n, 1, forge, 9, true, api.OK)
	if !slices.Equal(room, keptRoom) || !same(lines, keptLines) || !slices.Equal(run, []int{5, 0, -1}) || !slices.Equal(wait, []int{7, 3, 7, 7}) {
		t.Error(room, lines, run, wait)
	}
	for k := range room {
		room[k] = api.Bay{}
	}
	for k := range 3 {
		run[k], wait[k], lines[k] = 77, 78, api.Line{}
	}
	has(t, b, l, line(1, 7, 3, 9), line(0), line(2, 1, 8), line(0))
	has(t, n, l, line(1, 9), line(0), line(0), line(0))
}

// R3: lines are new memory each time, and no two of their lists share any.
func TestR3Lines(t *testing.T) {
	l := bays(1, 2, 1)
	want := []api.Line{line(2, 4, 9, 7, 2), line(1, 3, 1)}
	b := loaded(t, l, want...)
	got, again := b.Lines(), b.Lines()
	for k := range got {
		// One at a time: more might not go into the room behind the list.
		run := append(got[k].Run, 50)
		run = append(run, 51)
		if !same(got, want) || !same(again, want) {
			t.Error(got, again)
		}
		got[k].Wait = append(got[k].Wait, 60)
		for i := range want[k].Run {
			got[k].Run[i], run[i] = 70, 71
		}
		if !slices.Equal(got[k].Wait[:len(want[k].Wait)], want[k].Wait) {
			t.Error(got)
		}
		got[k] = api.Line{Run: want[k].Run, Wait: want[k].Wait}
	}
	if !same(again, want) {
		t.Error(again)
	}
	has(t, b, l, want...)
	// What is cut off leaves room ahead of a list, and behind it: answers share neither.
	leaves(t, b, 4, 7, api.OK)
	leaves(t, b, 1, 0, api.OK)
	got = b.Lines()
	asks(t, b, 1, forge, 5, false, api.OK)
	asks(t, b, 1, lab, 6, false, api.OK)
	if !same(got, []api.Line{line(2, 7, 9, 2), line(1, 3)}) {
		t.Error(got)
	}
	got[0].Wait, got[1].Wait = append(got[0].Wait, 80), append(got[1].Wait, 81)
	has(t, b, l, line(2, 7, 9, 2, 5), line(1, 3, 6))
}

// R4: what is asked changes nothing, and the same calls are answered the same.
func TestR4Asks(t *testing.T) {
	l := bays(2, 2, 1)
	b, c := made(t, l...), made(t, l...)
	for k := range 60 {
		if k%2 == 0 {
			b.Lines()
			b.Clone().Leave(k)
			b.Where(k)
			b.Free(1+k%2, k%2)
		}
		x, e := b.Ask(1+k%2, k/2%2, 1+k%23)
		y, f := c.Ask(1+k%2, k/2%2, 1+k%23)
		if x != y || e != f {
			t.Error(k, x, e, y, f)
		}
		n, e := b.Leave(k * 7 % 23)
		m, f := c.Leave(k * 7 % 23)
		if n != m || e != f {
			t.Error(k, n, e, m, f)
		}
		has(t, b, l, c.Lines()...)
	}
}

// Bays have the calls that the chapter lists, and no others.
func TestCalls(t *testing.T) {
	want := []string{"Ask", "Clone", "Free", "Leave", "Lines", "Where"}
	var got []string
	for k, c := 0, reflect.TypeFor[*bay.Bays](); k < c.NumMethod(); k++ {
		got = append(got, c.Method(k).Name)
	}
	if !slices.Equal(got, want) {
		t.Error(got)
	}
	for _, f := range reflect.VisibleFields(reflect.TypeFor[bay.Bays]()) {
		if f.IsExported() {
			t.Error(f.Name)
		}
	}
}
