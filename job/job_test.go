package job_test

import (
	"bottomry/api"
	"bottomry/job"
	"encoding/binary"
	"maps"
	"math"
	"math/rand/v2"
	"reflect"
	"slices"
	"testing"
)

const (
	last  = api.MaxTime
	least = math.MinInt
	most  = math.MaxInt
)

// edges are numbers at the edges of all that is looked at, good ones and wrong ones.
var edges = []int{
	least, least + 1, -1 << 62, -1 << 40, -1 << 32, -2, -1, 0, 1, 2, 3, 4, 5, 6, 7, 8, 9, 10, 11, 31, 32, 33, 999, 1000, 1001, 1 << 20, 1 << 32, 1<<32 + 1, last - 1, last, last + 1, 2*last - 1, 2 * last, 2*last + 1, 1<<50 - 1, 1 << 50, 1<<50 + 1, 1<<60 - 1, 1 << 60, 1<<60 + 1, 1 << 62, most - 1, most,
}

// chance are numbers that are the same at each run.
func chance() *rand.Rand { return rand.New(rand.NewPCG(19, 4)) }

// of are stacks: a type, how many of it, and so on.
func of(n ...int) []api.Stack {
	var l []api.Stack
	for k := 0; k+1 < len(n); k += 2 {
		l = append(l, api.Stack{Type: n[k], Qty: n[k+1]})
	}
	return l
}

// eight are as many stacks as a list may have.
func eight() []api.Stack { return of(1, 1, 2, 2, 5, 1<<50, 9, 9, 17, 128, 30, 1, 31, 300, 32, 1<<50) }

// waiting is a job that waits, with something of everything.
func waiting() api.Job {
	return api.Job{Id: 7, Kind: api.JobMake, Owner: 101, Div: 2, By: 3, Bay: 1, Draft: 4, Runs: 300, Time: 10, Fee: 5, Needs: of(1, 9, 3, 200), State: api.JobQueued, Left: 10}
}

// standing is a job as it then stands.
func standing(j api.Job, state, start, end, left int) api.Job {
	j.State, j.Start, j.End, j.Left = state, start, end, left
	return j
}

// copying is a job that copies, and locks nothing.
func copying(j api.Job) api.Job {
	j.Kind, j.Copies, j.Needs = api.JobCopy, 3, nil
	return j
}

// jobs are some that may be: as it may stand with them, at the edges.
func jobs() []api.Job {
	w := waiting()
	long := w
	long.Time = last
	l := []api.Job{
		w, standing(w, api.JobQueued, 0, 0, 1), standing(w, api.JobQueued, 0, 0, 7),
		standing(w, api.JobRunning, 5, 15, 10), standing(w, api.JobRunning, 0, 1, 1), standing(w, api.JobRunning, 0, 10, 10), standing(w, api.JobRunning, 20, 27, 7),
		standing(w, api.JobRunning, last, last+10, 10), standing(w, api.JobRunning, last-10, last, 10), standing(w, api.JobRunning, last-9, last+1, 10),
		standing(w, api.JobPaused, 0, 0, 10), standing(w, api.JobPaused, 0, 0, 1), standing(w, api.JobPaused, 0, 0, 7),
		standing(w, api.JobReady, 5, 15, 0), standing(w, api.JobReady, 0, 1, 0), standing(w, api.JobReady, last, 2*last, 0), standing(w, api.JobReady, 0, 2*last, 0),
		standing(w, api.JobDelivered, 5, 15, 0), standing(w, api.JobDelivered, 0, 1, 0), standing(w, api.JobDelivered, last, 2*last, 0),
		standing(w, api.JobCancelled, 0, 0, 0),
		standing(long, api.JobQueued, 0, 0, last), standing(long, api.JobRunning, last, 2*last, last), standing(long, api.JobRunning, 0, last, last), standing(long, api.JobPaused, 0, 0, last),
	}
	for _, j := range slices.Clone(l) {
		l = append(l, copying(j))
	}
	return l
}

// may is another hand's Check: what may be of each number by itself, then what goes together.
func may(j api.Job) bool {
	bounds := [16][2]int{{1, last}, {1, 4}, {1, last}, {0, 4}, {1, last}, {1, last}, {1, last}, {1, 1000}, {0, 10}, {1, last}, {0, 1 << 60}, {}, {1, 6}, {0, last}, {0, 2 * last}, {0, last}}
	for k, n := range fields(&j) {
		if b := bounds[k]; n != nil && (*n < b[0] || *n > b[1]) {
			return false
		}
	}
	if (j.Kind == 4) != (j.Copies > 0) || j.Kind != 1 && len(j.Needs) != 0 || len(j.Needs) > 8 {
		return false
	}
	for k, s := range j.Needs {
		if s.Type < 1 || s.Type > 32 || s.Qty < 1 || s.Qty > 1<<50 || k > 0 && s.Type <= j.Needs[k-1].Type {
			return false
		}
	}
	started := j.State == 2 || j.State == 4 || j.State == 5
	switch {
	case !started && (j.Start > 0 || j.End > 0), started && j.End <= j.Start:
		return false
	case j.State > 3:
		return j.Left == 0
	}
	return j.Left > 0 && j.Left <= j.Time && (!started || j.End-j.Start == j.Left)
}

// fields are a job's numbers in the order in which they are put; at the place of the stacks there is none.
func fields(j *api.Job) []*int {
	return []*int{&j.Id, &j.Kind, &j.Owner, &j.Div, &j.By, &j.Bay, &j.Draft, &j.Runs, &j.Copies, &j.Time, &j.Fee, nil, &j.State, &j.Start, &j.End, &j.Left}
}

// bytesOf are another hand's bytes of a job, whatever its numbers are.
func bytesOf(j api.Job) string {
	var b []byte
	put := func(n int) { b = binary.AppendUvarint(b, uint64(n)) }
	for _, n := range fields(&j) {
		if n != nil {
			put(*n)
			continue
		}
		put(len(j.Needs))
		for _, s := range j.Needs {
			put(s.Type)
			put(s.Qty)
		}
	}
	return string(b)
}

// same tells whether jobs are the same.
func same(a, b api.Job) bool {
	l, m := a.Needs, b.Needs
	a.Needs, b.Needs = nil, nil
	return reflect.DeepEqual(a, b) && slices.Equal(l, m)
}

// change is one of the calls that change a job, whether it is told a time, and another hand's answer.
type change struct {
	name  string
	timed bool
	do    func(j api.Job, now int) (api.Job, api.Errno)
	want  func(j api.Job, now int) (api.Job, bool)
}

// untimed is a call that is not told a time.
func untimed(f func(j api.Job) (api.Job, api.Errno)) func(j api.Job, now int) (api.Job, api.Errno) {
	return func(j api.Job, _ int) (api.Job, api.Errno) { return f(j) }
}

// changes are all calls that change a job.
func changes() []change {
	return []change{
		{"Start", true, job.Start, func(j api.Job, now int) (api.Job, bool) {
			return standing(j, 2, now, now+j.Left, j.Left), j.State == 1
		}},
		{"Pause", true, job.Pause, func(j api.Job, now int) (api.Job, bool) {
			return standing(j, 3, 0, 0, j.End-now), j.State == 2 && now >= j.Start && now <= j.End-1
		}},
		{"Resume", false, untimed(job.Resume), func(j api.Job, _ int) (api.Job, bool) {
			return standing(j, 1, j.Start, j.End, j.Left), j.State == 3
		}},
		{"Finish", true, job.Finish, func(j api.Job, now int) (api.Job, bool) {
			return standing(j, 4, j.Start, j.End, 0), j.State == 2 && j.End <= now
		}},
		{"Deliver", false, untimed(job.Deliver), func(j api.Job, _ int) (api.Job, bool) {
			return standing(j, 5, j.Start, j.End, j.Left), j.State == 4
		}},
		{"Cancel", false, untimed(job.Cancel), func(j api.Job, _ int) (api.Job, bool) {
			return standing(j, 6, 0, 0, 0), j.State >= 1 && j.State <= 3
		}},
	}
}

// answer is what another hand answers.
func (c change) answer(j api.Job, now int) (api.Job, api.Errno) {
	if !may(j) || c.timed && (now < 0 || now > last) {
		return api.Job{}, api.ErrArg
	}
	if x, ok := c.want(j, now); ok {
		return x, api.OK
	}
	return api.Job{}, api.ErrState
}

// comes looks at a call, and its answer: what is wanted.
func (c change) comes(t *testing.T, j api.Job, now int, want api.Job, wantErr api.Errno) {
	t.Helper()
	if x, e := c.do(j, now); !same(x, want) || e != wantErr {
		t.Fatalf("%s(%+v, %d): %+v, %d, want %+v, %d", c.name, j, now, x, e, want, wantErr)
	}
}

// check looks at a Check: whether the job may be.
func check(t *testing.T, j api.Job, want bool) {
	t.Helper()
	if e := job.Check(j); want && e != api.OK || !want && e != api.ErrArg {
		t.Fatalf("Check(%+v): %d, want that it may be: %v", j, e, want)
	}
}

func TestJo1CheckOfEachNumber(t *testing.T) {
	for k, c := range []struct {
		at          int
		least, most int
	}{
		{0, 1, last}, {2, 1, last}, {3, 0, 4}, {4, 1, last}, {5, 1, last}, {6, 1, last}, {7, 1, 1000}, {9, 10, last}, {10, 0, 1 << 60},
	} {
		for _, n := range edges {
			for _, j := range []api.Job{waiting(), copying(waiting())} {
				*fields(&j)[c.at] = n
				if ok := n >= c.least && n <= c.most; (job.Check(j) == api.OK) != ok || !ok && job.Check(j) != api.ErrArg {
					t.Error(k, n, job.Check(j))
				}
			}
		}
	}
}

func TestJo1CheckOfKinds(t *testing.T) {
	for _, kind := range edges {
		for _, copies := range edges {
			for _, needs := range [][]api.Stack{nil, of(), of(1, 1), eight()} {
				j := waiting()
				j.Kind, j.Copies, j.Needs = kind, copies, needs
				ok := kind == api.JobMake && copies == 0 || len(needs) == 0 && (kind == api.JobMe || kind == api.JobTe) && copies == 0 || len(needs) == 0 && kind == api.JobCopy && copies >= 1 && copies <= 10
				check(t, j, ok)
			}
		}
	}
}

func TestJo1CheckOfNeeds(t *testing.T) {
	nine := append(of(1, 1), of(3, 1, 4, 1, 5, 1, 6, 1, 7, 1, 8, 1, 9, 1, 10, 1)...)
	for _, c := range []struct {
		needs []api.Stack
		ok    bool
	}{
		{nil, true}, {of(), true}, {of(1, 1), true}, {of(32, 1<<50), true}, {of(1, 5, 2, 5), true}, {eight(), true}, {nine[:8], true}, {nine, false},
		{of(0, 1), false}, {of(-1, 1), false}, {of(33, 1), false}, {of(1, 0), false}, {of(1, -1), false}, {of(1, 1<<50+1), false}, {of(1, most), false}, {of(least, least), false},
		{of(2, 5, 1, 5), false}, {of(1, 5, 1, 5), false}, {of(1, 1, 3, 1, 2, 1), false}, {of(1, 1, 33, 1), false}, {of(1, 1, 2, 0), false},
	} {
		j := waiting()
		j.Needs = c.needs
		check(t, j, c.ok)
		check(t, standing(j, api.JobDelivered, 1, 2, 0), c.ok)
	}
}

func TestJo1CheckAsItStands(t *testing.T) {
	long := waiting()
	long.Time = last
	for _, c := range []struct {
		j  api.Job
		ok bool
	}{
		{standing(waiting(), 1, 0, 0, 11), false}, {standing(waiting(), 1, 0, 0, 0), false}, {standing(waiting(), 1, 1, 0, 10), false}, {standing(waiting(), 1, 0, 1, 10), false}, {standing(waiting(), 1, 0, 10, 10), false}, {standing(waiting(), 1, 0, 0, -1), false},
		{standing(waiting(), 3, 0, 0, 11), false}, {standing(waiting(), 3, 0, 0, 0), false}, {standing(waiting(), 3, 1, 0, 10), false}, {standing(waiting(), 3, 0, 1, 10), false}, {standing(waiting(), 3, 5, 15, 10), false},
		{standing(waiting(), 2, 5, 16, 10), false}, {standing(waiting(), 2, 5, 14, 10), false}, {standing(waiting(), 2, 5, 16, 11), false}, {standing(waiting(), 2, 5, 5, 0), false}, {standing(waiting(), 2, 5, 4, -1), false}, {standing(waiting(), 2, -1, 9, 10), false}, {standing(waiting(), 2, last+1, last+11, 10), false},
		{standing(long, 2, last, 2*last, last), true}, {standing(long, 2, last, 2*last+1, last+1), false}, {standing(long, 2, last+1, 2*last+1, last), false}, {standing(long, 2, 5, least+4, most), false},
		{standing(waiting(), 4, 5, 5, 0), false}, {standing(waiting(), 4, 5, 6, 0), true}, {standing(waiting(), 4, 5, 4, 0), false}, {standing(waiting(), 4, 5, 15, 1), false}, {standing(waiting(), 4, 5, 15, 10), false}, {standing(waiting(), 4, 0, 0, 0), false}, {standing(waiting(), 4, -1, 1, 0), false}, {standing(waiting(), 4, last, 2*last+1, 0), false}, {standing(waiting(), 4, last+1, last+2, 0), false}, {standing(waiting(), 4, 5, 5000, 0), true},
		{standing(waiting(), 5, 5, 5, 0), false}, {standing(waiting(), 5, 5, 15, 1), false}, {standing(waiting(), 5, 0, 0, 0), false}, {standing(waiting(), 5, last, 2*last+1, 0), false}, {standing(waiting(), 5, last+1, last+2, 0), false}, {standing(waiting(), 5, -1, 1, 0), false},
		{standing(waiting(), 6, 1, 0, 0), false}, {standing(waiting(), 6, 0, 1, 0), false}, {standing(waiting(), 6, 0, 0, 1), false}, {standing(waiting(), 6, 5, 15, 0), false},
		{standing(waiting(), 0, 0, 0, 0), false}, {standing(waiting(), 0, 0, 0, 10), false}, {standing(waiting(), 7, 0, 0, 0), false}, {standing(waiting(), 7, 0, 0, 10), false}, {standing(waiting(), -1, 0, 0, 0), false}, {standing(waiting(), most, 5, 15, 10), false},
		{api.Job{}, false},
	} {
		check(t, c.j, c.ok)
		if may(c.j) != c.ok {
			t.Error("the other hand", c.j)
		}
	}
	for _, j := range jobs() {
		check(t, j, true)
		if !may(j) {
			t.Error("the other hand", j)
		}
	}
}

// TestJo1CheckAtAllEdges looks at all jobs whose State, Time, Start, End and Left are such numbers.
func TestJo1CheckAtAllEdges(t *testing.T) {
	few := []int{least, -1, 0, 1, 2, 3, last - 1, last, last + 1, 2*last - 1, 2 * last, 2*last + 1, most}
	told := map[int]int{}
	for state := -1; state <= 7; state++ {
		for _, time := range few {
			j := waiting()
			j.Time = time
			for _, start := range few {
				for _, end := range few {
					for _, left := range few {
						x := standing(j, state, start, end, left)
						check(t, x, may(x))
						if may(x) {
							told[state]++
						}
					}
				}
			}
		}
	}
	if want := map[int]int{1: 15, 2: 52, 3: 15, 4: 165, 5: 165, 6: 5}; !maps.Equal(told, want) {
		t.Error("so many may be:", told, "want", want)
	}
}

func TestJo1SideOpen(t *testing.T) {
	for _, n := range edges {
		side := api.SideLab
		if n == api.JobMake {
			side = api.SideMake
		}
		if got := job.Side(n); got != side {
			t.Error("Side", n, got)
		}
		open := n == api.JobQueued || n == api.JobRunning || n == api.JobPaused || n == api.JobReady
		if job.Open(api.Job{State: n}) != open || job.Open(standing(waiting(), n, 3, 2, 1)) != open {
			t.Error("Open", n)
		}
	}
	for _, j := range jobs() {
		if job.Open(j) == (j.State == api.JobDelivered || j.State == api.JobCancelled) {
			t.Error("Open", j)
		}
	}
}

// TestJo1Arg looks at what is told of a job that may not be, and of a time, ahead of how it stands.
func TestJo1Arg(t *testing.T) {
	for _, c := range changes() {
		for _, j := range jobs() {
			for _, now := range []int{least, -2, -1, last + 1, last + 2, 2 * last, most} {
				if c.timed {
					c.comes(t, j, now, api.Job{}, api.ErrArg)
				}
			}
			for k := range fields(&j) {
				x := j
				if k == 11 {
					x.Needs = of(33, 1)
				} else {
					*fields(&x)[k] = -1
				}
				c.comes(t, x, 5, api.Job{}, api.ErrArg)
				c.comes(t, x, -1, api.Job{}, api.ErrArg)
			}
		}
		c.comes(t, api.Job{}, 0, api.Job{}, api.ErrArg)
	}
}

func TestJo2Start(t *testing.T) {
	start := changes()[0]
	w := waiting()
	for _, now := range []int{0, 1, 5, last - 10, last - 1, last} {
		start.comes(t, w, now, standing(w, api.JobRunning, now, now+10, 10), api.OK)
	}
	start.comes(t, standing(w, 1, 0, 0, 7), 20, standing(w, 2, 20, 27, 7), api.OK)
	for _, j := range []api.Job{standing(w, 2, 5, 15, 10), standing(w, 3, 0, 0, 7), standing(w, 4, 5, 15, 0), standing(w, 5, 5, 15, 0), standing(w, 6, 0, 0, 0)} {
		start.comes(t, j, 5, api.Job{}, api.ErrState)
		start.comes(t, j, last, api.Job{}, api.ErrState)
	}
}

func TestJo2Pause(t *testing.T) {
	pause := changes()[1]
	w := waiting()
	r := standing(w, 2, 5, 15, 10)
	for now := range 10 {
		pause.comes(t, r, 5+now, standing(w, 3, 0, 0, 10-now), api.OK)
	}
	for _, now := range []int{0, 1, 4, 15, 16, 99, last} {
		pause.comes(t, r, now, api.Job{}, api.ErrState)
	}
	end := standing(w, 2, last-3, last+7, 10)
	pause.comes(t, end, last-4, api.Job{}, api.ErrState)
	pause.comes(t, end, last, standing(w, 3, 0, 0, 7), api.OK)
	for _, j := range []api.Job{w, standing(w, 3, 0, 0, 7), standing(w, 4, 5, 15, 0), standing(w, 5, 5, 15, 0), standing(w, 6, 0, 0, 0)} {
		pause.comes(t, j, 0, api.Job{}, api.ErrState)
		pause.comes(t, j, 7, api.Job{}, api.ErrState)
	}
}

func TestJo2Resume(t *testing.T) {
	resume := changes()[2]
	w := waiting()
	for _, left := range []int{1, 7, 10} {
		resume.comes(t, standing(w, 3, 0, 0, left), 0, standing(w, 1, 0, 0, left), api.OK)
	}
	for _, j := range []api.Job{w, standing(w, 2, 5, 15, 10), standing(w, 4, 5, 15, 0), standing(w, 5, 5, 15, 0), standing(w, 6, 0, 0, 0)} {
		resume.comes(t, j, 0, api.Job{}, api.ErrState)
	}
}

func TestJo2Finish(t *testing.T) {
	finish := changes()[3]
	w := waiting()
	r := standing(w, 2, 5, 15, 10)
	for _, now := range []int{15, 16, 99, last - 1, last} {
		finish.comes(t, r, now, standing(w, 4, 5, 15, 0), api.OK)
	}
	for _, now := range []int{0, 4, 5, 13, 14} {
		finish.comes(t, r, now, api.Job{}, api.ErrState)
	}
	finish.comes(t, standing(w, 2, last-10, last, 10), last-1, api.Job{}, api.ErrState)
	finish.comes(t, standing(w, 2, last-10, last, 10), last, standing(w, 4, last-10, last, 0), api.OK)
	finish.comes(t, standing(w, 2, last-9, last+1, 10), last, api.Job{}, api.ErrState)
	for _, j := range []api.Job{w, standing(w, 3, 0, 0, 7), standing(w, 4, 5, 15, 0), standing(w, 5, 5, 15, 0), standing(w, 6, 0, 0, 0)} {
		finish.comes(t, j, 0, api.Job{}, api.ErrState)
		finish.comes(t, j, 99, api.Job{}, api.ErrState)
	}
}

func TestJo2DeliverCancel(t *testing.T) {
	deliver, cancel := changes()[4], changes()[5]
	w := waiting()
	over := standing(w, 6, 0, 0, 0)
	for _, c := range []struct {
		j, delivered, cancelled api.Job
	}{
		{w, api.Job{}, over}, {standing(w, 2, 5, 15, 10), api.Job{}, over}, {standing(w, 3, 0, 0, 7), api.Job{}, over},
		{standing(w, 4, 5, 15, 0), standing(w, 5, 5, 15, 0), api.Job{}}, {standing(w, 5, 5, 15, 0), api.Job{}, api.Job{}}, {over, api.Job{}, api.Job{}},
	} {
		for k, call := range []change{deliver, cancel} {
			want, e := []api.Job{c.delivered, c.cancelled}[k], api.OK
			if want.State == 0 {
				e = api.ErrState
			}
			call.comes(t, c.j, 0, want, e)
		}
	}
}

// TestJo2AtAllEdges looks at all calls of all jobs, at all times.
func TestJo2AtAllEdges(t *testing.T) {
	told := map[string]map[api.Errno]int{}
	for _, c := range changes() {
		told[c.name] = map[api.Errno]int{}
		for _, j := range jobs() {
			for _, now := range append([]int{12, 13, 14, 15, 16, 19, 20, 21, 26, 27, 28, last - 11, last - 10, last - 9, last - 2}, edges...) {
				want, e := c.answer(j, now)
				c.comes(t, j, now, want, e)
				told[c.name][e]++
			}
		}
		if told[c.name][api.OK] < 30 || told[c.name][api.ErrState] < 100 || c.timed && told[c.name][api.ErrArg] < 100 {
			t.Error("not told often enough:", c.name, told[c.name])
		}
	}
}

// some is one of some jobs, but with up to two other numbers, by chance.
func some(r *rand.Rand, all []api.Job) api.Job {
	j := all[r.IntN(len(all))]
	for range r.IntN(3) {
		if p := fields(&j)[r.IntN(16)]; p != nil {
			*p = edges[r.IntN(len(edges))]
		}
	}
	return j
}

func TestJo2ByChance(t *testing.T) {
	r := chance()
	told := map[api.Errno]int{}
	all, calls := jobs(), changes()
	for range 200_000 {
		j := some(r, all)
		check(t, j, may(j))
		now := edges[r.IntN(len(edges))]
		if r.IntN(2) == 0 {
			now = r.IntN(30)
		}
		c := calls[r.IntN(6)]
		want, e := c.answer(j, now)
		c.comes(t, j, now, want, e)
		told[e]++
	}
	if told[api.OK] < 1000 || told[api.ErrArg] < 10_000 || told[api.ErrState] < 10_000 {
		t.Error("not told often enough:", told)
	}
}

// puts looks at a Put, and at the Take of its bytes.
func puts(t *testing.T, j api.Job, want string) {
	t.Helper()
	if s, e := job.Put(j); s != want || e != api.OK {
		t.Fatalf("Put(%+v): %q, %d, want %q", j, s, e, want)
	}
	if x, e := job.Take(want); !same(x, j) || e != api.OK {
		t.Fatalf("Take(%q): %+v, %d, want %+v", want, x, e, j)
	}
}

// bad looks at a Take that is to be refused.
func bad(t *testing.T, s string) {
	t.Helper()
	if j, e := job.Take(s); !same(j, api.Job{}) || j.Needs != nil || e != api.ErrBad {
		t.Fatalf("Take(%q): %+v, %d, want ErrBad", s, j, e)
	}
}

func TestJo3PutTake(t *testing.T) {
	w := waiting()
	head := "\x07\x01\x65\x02\x03\x01\x04\xac\x02\x00\x0a\x05\x02\x01\x09\x03\xc8\x01"
	puts(t, w, head+"\x01\x00\x00\x0a")
	puts(t, standing(w, 2, 5, 12, 7), head+"\x02\x05\x0c\x07")
	puts(t, standing(w, 3, 0, 0, 7), head+"\x03\x00\x00\x07")
	puts(t, standing(w, 4, 300, 310, 0), head+"\x04\xac\x02\xb6\x02\x00")
	puts(t, standing(w, 5, 0, 2*last, 0), head+"\x05\x00\x80\x80\x80\x80\x80\x40\x00")
	puts(t, standing(w, 6, 0, 0, 0), head+"\x06\x00\x00\x00")
	puts(t, copying(w), "\x07\x04\x65\x02\x03\x01\x04\xac\x02\x03\x0a\x05\x00\x01\x00\x00\x0a")
	for _, j := range jobs() {
		puts(t, j, bytesOf(j))
	}
	greatest := api.Job{Id: last, Kind: 1, Owner: last, Div: 4, By: last, Bay: last, Draft: last, Runs: 1000, Time: last, Fee: 1 << 60, Needs: eight(), State: 2, Start: last, End: 2 * last, Left: last}
	puts(t, greatest, bytesOf(greatest))
	smallest := api.Job{Id: 1, Kind: 2, Owner: 1, By: 1, Bay: 1, Draft: 1, Runs: 1, Time: 1, State: 6}
	puts(t, smallest, "\x01\x02\x01\x00\x01\x01\x01\x01\x00\x01\x00\x00\x06\x00\x00\x00")
}

func TestJo3PutArg(t *testing.T) {
	r := chance()
	told := 0
	all := jobs()
	for range 50_000 {
		j := some(r, all)
		if may(j) {
			puts(t, j, bytesOf(j))
			continue
		}
		if s, e := job.Put(j); s != "" || e != api.ErrArg {
			t.Fatalf("Put(%+v): %q, %d, want ErrArg", j, s, e)
		}
		told++
		// A number below 0 is put here as one above MaxInt.
		bad(t, bytesOf(j))
	}
	if told < 10_000 || told > 45_000 {
		t.Error("not told often enough:", told)
	}
}

// TestJo3TakeBad looks at bytes of jobs that are cut, longer, or changed: only those that Put gives are a job's.
func TestJo3TakeBad(t *testing.T) {
	bad(t, "")
	good := 0
	for _, j := range jobs() {
		s := bytesOf(j)
		for k := range len(s) {
			bad(t, s[:k])
			for _, b := range []byte{0, 1, 2, 3, 7, 10, 127, 128, 129, 255, s[k] + 1, s[k] ^ 128, s[k] - 1} {
				good += takes(t, s[:k]+string([]byte{b})+s[k+1:])
				good += takes(t, s[:k]+string([]byte{b})+s[k:])
			}
			good += takes(t, s[:k]+s[k+1:])
		}
		for _, behind := range []string{"\x00", "\x01", "\x80", "\xff", s} {
			bad(t, s+behind)
			good += takes(t, behind+s)
		}
	}
	if good < 1000 {
		t.Error("too few are good:", good)
	}
}

// takes looks at bytes that may be a job's: if they are, they are just what is put of it. It tells whether they are, 1 or 0.
func takes(t *testing.T, s string) int {
	t.Helper()
	j, e := job.Take(s)
	if e == api.ErrBad && same(j, api.Job{}) {
		return 0
	}
	if e != api.OK || !may(j) || bytesOf(j) != s {
		t.Fatalf("Take(%q): %+v, %d", s, j, e)
	}
	return 1
}

// TestJo3TakeOfNumbers looks at bytes that are well, but for a number that may not be, or how a number is written.
func TestJo3TakeOfNumbers(t *testing.T) {
	for k := range 16 {
		for _, n := range edges {
			j := waiting()
			if k == 11 {
				continue
			}
			*fields(&j)[k] = n
			if may(j) {
				puts(t, j, bytesOf(j))
			} else {
				bad(t, bytesOf(j))
			}
		}
	}
	head, tail := "\x07\x01\x65\x02\x03\x01\x04\xac\x02\x00\x0a\x05", "\x01\x00\x00\x0a"
	if takes(t, head+"\x00"+tail) != 1 || takes(t, head+"\x01\x01\x01"+tail) != 1 {
		t.Error("these are jobs")
	}
	for _, needs := range []string{"", "\x01", "\x01\x01", "\x02\x01\x01", "\x00\x01\x01", "\x01\x00\x01", "\x01\x01\x00", "\x01\x21\x01", "\x02\x01\x01\x01\x01", "\x02\x02\x01\x01\x01", "\x80\x00", "\x81\x00\x01\x01", "\xff\xff\xff\xff\xff\xff\xff\xff\x7f", "\xff\xff\xff\xff\xff\xff\xff\xff\xff\x01"} {
		bad(t, head+needs+tail)
	}
	nine := "\x09\x01\x01\x02\x01\x03\x01\x04\x01\x05\x01\x06\x01\x07\x01\x08\x01\x09\x01"
	bad(t, head+nine+tail)
	if takes(t, head+"\x08"+nine[1:17]+tail) != 1 {
		t.Error("eight stacks are a job's")
	}
	bad(t, "\x87\x00"+head[1:]+"\x00"+tail)
	bad(t, head+"\x00"+"\x01\x00\x00\x8a\x00")
}

func TestJo3ByChance(t *testing.T) {
	r := chance()
	for range 50_000 {
		s := make([]byte, r.IntN(40))
		for k := range s {
			s[k] = byte(r.IntN(1 << (1 + r.IntN(8))))
		}
		takes(t, string(s))
	}
}

// TestJo4Lives does whatever may be done by chance: a job may be at all times, runs for its Time in all, and stays as it is once it is over.
func TestJo4Lives(t *testing.T) {
	r := chance()
	ends, pauses := map[int]int{}, 0
	calls := changes()
	for range 20_000 {
		w := waiting()
		w.Time = 1 + r.IntN(30)
		if r.IntN(4) == 0 {
			w.Time = last - r.IntN(3)
		}
		w.Left = w.Time
		j, now, ran := w, r.IntN(20), 0
		for range 60 {
			c := calls[[]int{0, 0, 0, 1, 1, 2, 2, 3, 3, 3, 4, 5}[r.IntN(12)]]
			if c.name == "Cancel" && r.IntN(4) > 0 {
				continue
			}
			now += r.IntN(9)
			x, e := c.do(j, now)
			if e != api.OK {
				continue
			}
			check(t, x, true)
			switch c.name {
			case "Pause":
				ran += now - j.Start
				pauses++
				if x.Left != w.Time-ran {
					t.Fatal("paused", x, ran)
				}
			case "Finish":
				if ran += x.End - x.Start; ran != w.Time || x.End > now {
					t.Fatal("ran for", ran, x)
				}
			}
			j = x
		}
		ends[j.State]++
		kept := standing(w, j.State, j.Start, j.End, j.Left)
		if !same(j, kept) {
			t.Fatal("changed", j, kept)
		}
		stays(t, j, now)
	}
	if ends[api.JobDelivered] < 1000 || ends[api.JobCancelled] < 1000 || pauses < 10_000 {
		t.Error("not often enough:", ends, pauses)
	}
}

// stays looks at a job, which nothing changes if it is over.
func stays(t *testing.T, j api.Job, now int) {
	t.Helper()
	if job.Open(j) {
		return
	}
	for _, c := range changes() {
		for _, at := range []int{0, now, j.Start, j.End, last} {
			c.comes(t, j, at, api.Job{}, api.ErrState)
		}
	}
}

// TestExample is the chapter's example.
func TestExample(t *testing.T) {
	a, e := job.Start(waiting(), 5)
	b, f := job.Pause(a, 8)
	c, g := job.Resume(b)
	d, h := job.Start(c, 20)
	if e+f+g+h != api.OK || b.Left != 7 || d.Start != 20 || d.End != 27 {
		t.Error(a, b, c, d)
	}
}

// TestR1Ends calls everything with whatever may stand in a job: nothing panics.
func TestR1Ends(t *testing.T) {
	r := chance()
	for range 50_000 {
		var j api.Job
		for _, p := range fields(&j) {
			if p != nil {
				*p = edges[r.IntN(len(edges))]
			}
		}
		for range r.IntN(11) {
			j.Needs = append(j.Needs, api.Stack{Type: edges[r.IntN(len(edges))], Qty: edges[r.IntN(len(edges))]})
		}
		check(t, j, may(j))
		job.Put(j)
		job.Side(j.Kind)
		job.Open(j)
		for _, c := range changes() {
			now := edges[r.IntN(len(edges))]
			want, e := c.answer(j, now)
			c.comes(t, j, now, want, e)
		}
	}
}

// TestR3Lists looks at the stacks of what is handed in and of what is answered: they are not changed, not read beyond their end, and not shared.
func TestR3Lists(t *testing.T) {
	wrong := api.Stack{Type: -1, Qty: -1}
	for _, c := range changes() {
		for _, j := range jobs()[:25] {
			room := append(slices.Clone(j.Needs), wrong, wrong)
			j.Needs = room[:2]
			check(t, j, true)
			now := 12
			want, e := c.answer(j, now)
			c.comes(t, j, now, want, e)
			x, _ := c.do(j, now)
			y, _ := c.do(j, now)
			x.Needs = append(x.Needs, wrong)
			for k := range x.Needs {
				x.Needs[k] = wrong
			}
			if !slices.Equal(room, append(of(1, 9, 3, 200), wrong, wrong)) {
				t.Fatal(c.name, "changed what was handed in:", room)
			}
			if !same(y, want) {
				t.Fatal(c.name, "answers share their stacks:", y)
			}
			for k := range room {
				room[k] = wrong
			}
			if !same(y, withNeeds(y, of(1, 9, 3, 200))) && e == api.OK {
				t.Fatal(c.name, "kept what was handed in:", y)
			}
		}
	}
}

// withNeeds is a job with other stacks.
func withNeeds(j api.Job, needs []api.Stack) api.Job {
	j.Needs = needs
	return j
}

// TestR3Bytes looks at jobs of the same bytes: they share no stacks; an empty list and nil are the same.
func TestR3Bytes(t *testing.T) {
	j := waiting()
	room := append(slices.Clone(j.Needs), api.Stack{Type: -1, Qty: -1})
	s, _ := job.Put(withNeeds(j, room[:2]))
	if s != bytesOf(j) {
		t.Errorf("%q", s)
	}
	x, _ := job.Take(s)
	y, _ := job.Take(s)
	x.Needs[0].Qty = 77
	if y.Needs[0].Qty != 9 {
		t.Error("answers share their stacks:", y)
	}
	a, e := job.Put(withNeeds(j, nil))
	b, f := job.Put(withNeeds(j, []api.Stack{}))
	if a != b || e != api.OK || f != api.OK {
		t.Errorf("%q %q", a, b)
	}
}

// TestR4Same asks the same again, with other calls between.
func TestR4Same(t *testing.T) {
	for range 3 {
		for _, c := range changes() {
			for _, j := range jobs() {
				want, e := c.answer(j, 12)
				c.comes(t, j, 12, want, e)
				puts(t, j, bytesOf(j))
			}
		}
	}
}
