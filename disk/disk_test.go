package disk_test

import (
	"bottomry/api"
	"bottomry/disk"
	"math"
	"math/rand/v2"
	"slices"
	"strconv"
	"strings"
	"testing"
)

const mostRoom = 1 << 24

// chance are numbers that are the same at each run.
func chance() *rand.Rand { return rand.New(rand.NewPCG(5, 14)) }

// fresh is a disk without files that has so much room.
func fresh(t *testing.T, room int) *disk.Disk {
	t.Helper()
	d, e := disk.New(room)
	if d == nil || e != api.OK {
		t.Fatalf("New(%d): %d", room, e)
	}
	return d
}

// answers looks at an error.
func answers(t *testing.T, what string, got, want api.Errno) {
	t.Helper()
	if got != want {
		t.Errorf("%s: answered %d, want %d", what, got, want)
	}
}

// done looks at calls that are to be answered by no error.
func done(t *testing.T, l ...api.Errno) {
	t.Helper()
	for k, e := range l {
		answers(t, "call "+strconv.Itoa(k), e, api.OK)
	}
}

// holds looks at all that a disk that goes on tells: names and bytes, one behind the other, are to be all its files.
func holds(t *testing.T, d *disk.Disk, want ...string) {
	t.Helper()
	var names []string
	used := 0
	for i := 0; i < len(want); i += 2 {
		names = append(names, want[i])
		used += len(want[i+1])
		if s, e := d.Read(want[i]); s != want[i+1] || e != api.OK {
			t.Errorf("Read(%q) = %.40q, %d, want %.40q", want[i], s, e, want[i+1])
		}
	}
	if l := d.Names(); !slices.Equal(l, names) {
		t.Errorf("Names: %q, want %q", l, names)
	}
	if n := d.Used(); n != used {
		t.Errorf("Used: %d, want %d", n, used)
	}
	if d.Dead() {
		t.Error("it stands still")
	}
}

// lacks looks for a file that there is not to be.
func lacks(t *testing.T, d *disk.Disk, name string) {
	t.Helper()
	if s, e := d.Read(name); s != "" || e != api.ErrNone {
		t.Errorf("Read(%q) = %.40q, %d", name, s, e)
	}
}

// still looks at a disk that stands still: nothing is told, and nothing done; no other error comes ahead.
func still(t *testing.T, d *disk.Disk) {
	t.Helper()
	if !d.Dead() {
		t.Error("it goes on")
	}
	ops := d.Ops()
	for _, name := range []string{"a", "log", "nobody", "", "B", strings.Repeat("a", 13)} {
		answers(t, "Append", d.Append(name, "x"), api.ErrDead)
		answers(t, "Append of much", d.Append(name, strings.Repeat("x", 100)), api.ErrDead)
		answers(t, "Sync", d.Sync(name), api.ErrDead)
		answers(t, "Cut", d.Cut(name, 0), api.ErrDead)
		answers(t, "Cut", d.Cut(name, -1), api.ErrDead)
		answers(t, "Rename", d.Rename(name, "a"), api.ErrDead)
		answers(t, "Rename", d.Rename("a", name), api.ErrDead)
		if s, e := d.Read(name); s != "" || e != api.ErrDead {
			t.Errorf("Read(%q) = %q, %d", name, s, e)
		}
	}
	if l, n := d.Names(), d.Used(); l != nil || n != 0 {
		t.Errorf("Names %q, Used %d", l, n)
	}
	if d.Ops() != ops {
		t.Errorf("Ops: %d, then %d", ops, d.Ops())
	}
}

// good and wrong are names, and texts that are none.
func good() []string {
	return []string{"a", "z", ".", "..", "log", "snap", "snap.new", ".a", "a.", "abcdefghijkl", "mnopqrstuvwx", "yz..........", "............", "zzzzzzzzzzzz"}
}

func wrong() []string {
	return []string{
		"", "abcdefghijklm", strings.Repeat(".", 13), strings.Repeat("a", 1000), "A", "Z", "aB", "Ba", "0", "a1", "9", "a b", " ", " a", "a ", "-", "/", "a/b", "`", "{", "@", "[", "_", ",",
		"\x00", "a\x00", "a\n", "\xff", "a\xff", "\xe1", "é", "aé", "ａ", "\u0161", "\x80", "\xae", "\ufffd",
	}
}

// Di1: how much room there may be.
func TestDi1New(t *testing.T) {
	for _, room := range []int{0, 1, 2, 20, 1 << 16, mostRoom - 1, mostRoom} {
		holds(t, fresh(t, room))
	}
	for _, room := range []int{-1, -2, math.MinInt, math.MinInt + 1, mostRoom + 1, 1 << 25, 1 << 32, 1<<32 + 1, math.MaxInt - 1, math.MaxInt} {
		if d, e := disk.New(room); d != nil || e != api.ErrArg {
			t.Errorf("New(%d): %v, %d", room, d, e)
		}
	}
}

// Di1: there is room for just as many bytes as it was made for.
func TestDi1Room(t *testing.T) {
	for _, room := range []int{0, 1, 2, 20, 4096, 1 << 20, mostRoom} {
		all := strings.Repeat("x", room)
		d := fresh(t, room)
		answers(t, "Append of one more", d.Append("a", all+"y"), api.ErrFull)
		holds(t, d)
		done(t, d.Append("a", all))
		answers(t, "Append to a full one", d.Append("a", "y"), api.ErrFull)
		answers(t, "Append to a full one", d.Append("b", "y"), api.ErrFull)
		done(t, d.Append("a", ""), d.Append("b", ""))
		holds(t, d, "a", all, "b", "")
		if d.Ops() != 3 {
			t.Errorf("Ops: %d", d.Ops())
		}
	}
}

// Di1: all files' bytes count, whether they are sure or not; what is cut, replaced, or lost, counts no more.
func TestDi1RoomOfAll(t *testing.T) {
	d := fresh(t, 10)
	done(t, d.Append("a", "1234"), d.Sync("a"), d.Append("b", "567"), d.Append("c", "89"))
	answers(t, "Append", d.Append("d", "xy"), api.ErrFull)
	done(t, d.Append("d", "x"))
	answers(t, "Append", d.Append("a", "y"), api.ErrFull)
	done(t, d.Cut("b", 1))
	answers(t, "Append behind a Cut", d.Append("a", "567"), api.ErrFull)
	done(t, d.Append("a", "56"))
	holds(t, d, "a", "123456", "b", "5", "c", "89", "d", "x")
	done(t, d.Rename("d", "a"))
	answers(t, "Append behind a Rename", d.Append("b", "1234567"), api.ErrFull)
	done(t, d.Append("b", "123456"))
	answers(t, "Append", d.Append("b", "y"), api.ErrFull)
	holds(t, d, "a", "x", "b", "5123456", "c", "89")
	done(t, d.Crash([]int{1, 2, 0}))
	holds(t, d, "a", "x", "b", "51")
	answers(t, "Append behind a Crash", d.Append("c", "12345678"), api.ErrFull)
	done(t, d.Append("c", "1234567"))
	answers(t, "Append", d.Append("c", "y"), api.ErrFull)
	done(t, d.Rename("b", "b"), d.Rename("c", "e"), d.Sync("e"))
	answers(t, "Append behind a Rename to no other", d.Append("e", "y"), api.ErrFull)
	holds(t, d, "a", "x", "b", "51", "e", "1234567")
	done(t, d.Crash(nil))
	holds(t, d, "a", "x", "b", "51", "e", "1234567")
	answers(t, "Append", d.Append("e", "y"), api.ErrFull)
}

// Di1: which texts are names, and which not: ahead of whether there is room.
func TestDi1AppendNames(t *testing.T) {
	for _, name := range good() {
		d := fresh(t, 9)
		done(t, d.Append(name, "xy"), d.Append(name, ""), d.Append(name, "z"))
		holds(t, d, name, "xyz")
	}
	for _, name := range wrong() {
		d := fresh(t, 9)
		done(t, d.Append("a", "xy"))
		for _, s := range []string{"", "x", strings.Repeat("x", 20)} {
			answers(t, strconv.Quote(name), d.Append(name, s), api.ErrArg)
		}
		holds(t, d, "a", "xy")
		if d.Ops() != 1 {
			t.Errorf("%q: Ops %d", name, d.Ops())
		}
	}
}

// Di1: bytes stand behind those that are there, whatever they are; none of them is sure.
func TestDi1Append(t *testing.T) {
	d := fresh(t, 1000)
	done(t, d.Append("b", "one"), d.Append("a", ""), d.Append("b", "\x00\xff\n"), d.Append("c", "é"), d.Append("b", ""), d.Append("c", "\x80"))
	holds(t, d, "a", "", "b", "one\x00\xff\n", "c", "é\x80")
	done(t, d.Crash(nil))
	holds(t, d)
}

// Di1: what is appended behind what is sure is not sure, and what was stays so.
func TestDi1AppendBehindSure(t *testing.T) {
	d := fresh(t, 1000)
	done(t, d.Append("a", "12"), d.Sync("a"), d.Append("a", "345"), d.Append("a", "6"), d.Append("b", "x"))
	holds(t, d, "a", "123456", "b", "x")
	done(t, d.Crash(nil))
	holds(t, d, "a", "12")
}

// Di1: a sync is of all bytes of one file, and of no other.
func TestDi1Sync(t *testing.T) {
	d := fresh(t, 1000)
	done(t, d.Append("a", "1"), d.Append("b", "2"), d.Append("a", "3"), d.Sync("a"), d.Sync("a"), d.Append("c", ""), d.Sync("c"))
	for _, name := range append(wrong(), "d", "aa", "..") {
		answers(t, "Sync of "+strconv.Quote(name), d.Sync(name), api.ErrNone)
	}
	if d.Ops() != 7 {
		t.Errorf("Ops: %d", d.Ops())
	}
	holds(t, d, "a", "13", "b", "2", "c", "")
	done(t, d.Crash(nil))
	holds(t, d, "a", "13")
	answers(t, "Sync of one that is gone", d.Sync("b"), api.ErrNone)
}

// Di1: how many bytes may be left.
func TestDi1Cut(t *testing.T) {
	for n := range 6 {
		d := fresh(t, 1000)
		done(t, d.Append("a", "12345"), d.Append("b", "12345"), d.Cut("a", n))
		holds(t, d, "a", "12345"[:n], "b", "12345")
	}
	d := fresh(t, 1000)
	done(t, d.Append("a", "12345"), d.Append("b", ""), d.Cut("b", 0))
	for _, n := range []int{6, 7, -1, -5, math.MinInt, math.MaxInt, 1 << 32, -1 << 32, 1<<32 + 2} {
		answers(t, "Cut to "+strconv.Itoa(n), d.Cut("a", n), api.ErrArg)
		answers(t, "Cut of none to "+strconv.Itoa(n), d.Cut("c", n), api.ErrNone)
	}
	answers(t, "Cut", d.Cut("b", 1), api.ErrArg)
	for _, name := range wrong() {
		answers(t, "Cut of "+strconv.Quote(name), d.Cut(name, 0), api.ErrNone)
	}
	holds(t, d, "a", "12345", "b", "")
	if d.Ops() != 3 {
		t.Errorf("Ops: %d", d.Ops())
	}
}

// Di1: behind a cut those are sure that were: not what is appended in place of others that were, too.
func TestDi1CutSure(t *testing.T) {
	for n := range 7 {
		d := fresh(t, 1000)
		done(t, d.Append("a", "1234"), d.Sync("a"), d.Append("a", "56"), d.Cut("a", n), d.Append("a", "xyz"))
		holds(t, d, "a", "123456"[:n]+"xyz")
		done(t, d.Crash(nil))
		if n == 0 {
			holds(t, d)
			continue
		}
		holds(t, d, "a", "123456"[:min(n, 4)])
	}
}

// Di1: a name, its bytes and what of them is sure go on to the other name.
func TestDi1Rename(t *testing.T) {
	d := fresh(t, 1000)
	done(t, d.Append("a", "12"), d.Sync("a"), d.Append("a", "34"), d.Append("b", "x"), d.Rename("a", "c"))
	lacks(t, d, "a")
	holds(t, d, "b", "x", "c", "1234")
	done(t, d.Append("a", "new"), d.Append("c", "5"))
	holds(t, d, "a", "new", "b", "x", "c", "12345")
	done(t, d.Crash([]int{2, 1, 0}))
	holds(t, d, "a", "ne", "b", "x", "c", "12")
}

// Di1: another file of the new name is gone: of its bytes none is left, and none is sure.
func TestDi1RenameOver(t *testing.T) {
	d := fresh(t, 1000)
	done(t, d.Append("old", "123456"), d.Sync("old"), d.Append("new", "abc"), d.Rename("new", "old"))
	holds(t, d, "old", "abc")
	done(t, d.Append("old", "d"), d.Crash(nil))
	holds(t, d)
	done(t, d.Append("old", "1"), d.Append("new", "abc"), d.Sync("new"), d.Rename("new", "old"), d.Crash(nil))
	holds(t, d, "old", "abc")
	done(t, d.Append("empty", ""), d.Rename("empty", "old"))
	holds(t, d, "old", "")
}

// Di1: a file that is renamed to its own name is no other file.
func TestDi1RenameSelf(t *testing.T) {
	d := fresh(t, 1000)
	done(t, d.Append("a", "12"), d.Sync("a"), d.Append("a", "34"), d.Rename("a", "a"))
	holds(t, d, "a", "1234")
	if d.Ops() != 4 {
		t.Errorf("Ops: %d", d.Ops())
	}
	done(t, d.Crash([]int{4}))
	holds(t, d, "a", "123")
}

// Di1: a name that is none comes ahead of a file that there is not.
func TestDi1RenameWrong(t *testing.T) {
	d := fresh(t, 1000)
	done(t, d.Append("a", "12"))
	for _, name := range wrong() {
		what := strconv.Quote(name)
		answers(t, "to "+what, d.Rename("a", name), api.ErrArg)
		answers(t, "none to "+what, d.Rename("b", name), api.ErrArg)
		answers(t, "from and to "+what, d.Rename(name, name), api.ErrArg)
		answers(t, "from "+what, d.Rename(name, "c"), api.ErrNone)
	}
	answers(t, "from none", d.Rename("b", "a"), api.ErrNone)
	answers(t, "from none to it", d.Rename("b", "b"), api.ErrNone)
	holds(t, d, "a", "12")
	if d.Ops() != 1 {
		t.Errorf("Ops: %d", d.Ops())
	}
	for _, name := range good() {
		d := fresh(t, 1000)
		done(t, d.Append("n", "12"), d.Rename("n", name))
		holds(t, d, name, "12")
	}
}

// Di1: of a file that there is not there are no bytes; of one without bytes no error.
func TestDi1Read(t *testing.T) {
	d := fresh(t, 1000)
	done(t, d.Append("a", ""), d.Append("bb", "x"))
	for _, name := range append(wrong(), "b", "bbb", "c", ".") {
		lacks(t, d, name)
	}
	holds(t, d, "a", "", "bb", "x")
}

// Di1: names rise, whenever their files came.
func TestDi1Names(t *testing.T) {
	d := fresh(t, 1000)
	l := append(good(), "b", "aa", "ab", "a.b", "log.", "logs", "zz")
	rand.New(rand.NewPCG(1, 2)).Shuffle(len(l), func(i, j int) { l[i], l[j] = l[j], l[i] })
	for i, name := range l {
		done(t, d.Append(name, strings.Repeat("x", i)))
	}
	slices.Sort(l)
	if names := d.Names(); !slices.Equal(names, l) {
		t.Errorf("%q", names)
	}
	if n := d.Used(); n != len(l)*(len(l)-1)/2 {
		t.Errorf("Used: %d", n)
	}
}

// Di1: an operation is counted, a call that is refused, or only asks, is not; a crash is none.
func TestDi1Ops(t *testing.T) {
	d := fresh(t, 3)
	if d.Ops() != 0 {
		t.Errorf("a new one: %d", d.Ops())
	}
	for k, do := range []func() api.Errno{
		func() api.Errno { return d.Append("a", "xy") }, func() api.Errno { return d.Append("a", "") }, func() api.Errno { return d.Sync("a") },
		func() api.Errno { return d.Sync("a") }, func() api.Errno { return d.Cut("a", 1) }, func() api.Errno { return d.Cut("a", 1) },
		func() api.Errno { return d.Rename("a", "b") }, func() api.Errno { return d.Rename("b", "b") }, func() api.Errno { return d.Rename("b", "a") },
	} {
		done(t, do())
		d.Append("A", "")
		d.Append("a", "123")
		d.Sync("c")
		d.Cut("c", 0)
		d.Cut("a", 5)
		d.Rename("a", "")
		d.Rename("c", "d")
		d.Read("a")
		d.Names()
		d.Used()
		d.Fuse(0, true)
		d.Fuse(9, false)
		d.Crash([]int{2})
		if d.Ops() != k+1 {
			t.Errorf("behind %d: %d", k+1, d.Ops())
		}
	}
}

// Di2: with the n-th operation the disk stands still, not ahead of it; calls that are none do not count.
func TestDi2Nth(t *testing.T) {
	for n := 1; n < 12; n++ {
		for _, half := range []bool{false, true} {
			d := fresh(t, 100)
			done(t, d.Append("a", "x"))
			d.Fuse(n, half)
			for k := 1; k < n; k++ {
				answers(t, "Append", d.Append("", "x"), api.ErrArg)
				answers(t, "Append", d.Append("a", strings.Repeat("x", 100)), api.ErrFull)
				answers(t, "Sync", d.Sync("c"), api.ErrNone)
				answers(t, "Cut", d.Cut("a", 100), api.ErrArg)
				answers(t, "Rename", d.Rename("a", ""), api.ErrArg)
				holds(t, d, "a", strings.Repeat("x", k))
				done(t, d.Append("a", "x"))
			}
			answers(t, "the last one", d.Append("a", "y"), api.ErrDead)
			still(t, d)
			if d.Ops() != n+1 {
				t.Errorf("Ops: %d, want %d", d.Ops(), n+1)
			}
			done(t, d.Crash([]int{n + 1}))
			holds(t, d, "a", strings.Repeat("x", n)+"y")
		}
	}
}

// Di2: what is refused, is so by its own error, also as the next one is the last one; and it is not that one.
func TestDi2Refused(t *testing.T) {
	d := fresh(t, 5)
	done(t, d.Append("a", "xyz"))
	d.Fuse(1, true)
	for range 3 {
		answers(t, "Append", d.Append("A", ""), api.ErrArg)
		answers(t, "Append", d.Append("a", "123"), api.ErrFull)
		answers(t, "Sync", d.Sync("b"), api.ErrNone)
		answers(t, "Cut", d.Cut("b", 0), api.ErrNone)
		answers(t, "Cut", d.Cut("a", 4), api.ErrArg)
		answers(t, "Rename", d.Rename("a", "-"), api.ErrArg)
		answers(t, "Rename", d.Rename("b", "c"), api.ErrNone)
		holds(t, d, "a", "xyz")
	}
	answers(t, "Sync", d.Sync("a"), api.ErrDead)
	still(t, d)
}

// Di2: of n below 1 none is the last one; nor of one that is beyond all.
func TestDi2None(t *testing.T) {
	for _, n := range []int{0, -1, -2, math.MinInt, math.MinInt + 1, 1 << 32, 1 << 62, math.MaxInt - 1, math.MaxInt} {
		d := fresh(t, 1000)
		done(t, d.Append("a", "x"))
		d.Fuse(n, true)
		for range 50 {
			done(t, d.Append("a", "x"), d.Sync("a"), d.Rename("a", "b"), d.Rename("b", "a"))
		}
		holds(t, d, "a", strings.Repeat("x", 51))
	}
}

// Di2: from now on: what was told later holds, in place of what was told ahead.
func TestDi2Later(t *testing.T) {
	for _, x := range []struct{ first, second, last int }{{1, 3, 3}, {3, 1, 1}, {2, 2, 2}, {1, 0, 0}, {2, -5, 0}, {0, 2, 2}, {1, math.MinInt, 0}} {
		d := fresh(t, 1000)
		done(t, d.Append("a", "x"))
		d.Fuse(x.first, false)
		d.Fuse(x.second, true)
		for k := 1; k < 6 && k != x.last; k++ {
			done(t, d.Sync("a"))
		}
		if x.last == 0 {
			holds(t, d, "a", "x")
			continue
		}
		answers(t, "Cut", d.Cut("a", 0), api.ErrDead)
		done(t, d.Crash(nil))
		holds(t, d)
	}
	d := fresh(t, 1000)
	d.Fuse(3, true)
	done(t, d.Append("a", "x"), d.Sync("a"))
	d.Fuse(2, false)
	done(t, d.Append("a", "y"))
	answers(t, "Cut", d.Cut("a", 0), api.ErrDead)
	done(t, d.Crash(nil))
	holds(t, d, "a", "x")
}

// Di2: of the last one, an Append, the bytes stand there, not sure, half or not: the crash tells what is kept.
func TestDi2Append(t *testing.T) {
	for _, half := range []bool{false, true} {
		for keep := range 4 {
			d := fresh(t, 100)
			done(t, d.Append("a", "12"), d.Sync("a"))
			d.Fuse(1, half)
			answers(t, "Append", d.Append("a", "xyz"), api.ErrDead)
			still(t, d)
			done(t, d.Crash([]int{keep}))
			holds(t, d, "a", "12"+"xyz"[:keep])
		}
		d := fresh(t, 100)
		done(t, d.Append("b", "1"), d.Append("n", "2"))
		d.Fuse(1, half)
		answers(t, "Append", d.Append("c", "xyz"), api.ErrDead)
		done(t, d.Crash([]int{1, 2, 1}))
		holds(t, d, "b", "1", "c", "xy", "n", "2")
		done(t, d.Append("b", strings.Repeat("x", 96)))
		answers(t, "Append", d.Append("b", "x"), api.ErrFull)
	}
}

// Di2: of the last one, a Sync, all is done, or nothing.
func TestDi2Sync(t *testing.T) {
	for _, half := range []bool{false, true} {
		d := fresh(t, 100)
		done(t, d.Append("a", "12"), d.Sync("a"), d.Append("a", "345"))
		d.Fuse(1, half)
		answers(t, "Sync", d.Sync("a"), api.ErrDead)
		still(t, d)
		done(t, d.Crash(nil))
		if half {
			holds(t, d, "a", "12345")
			continue
		}
		holds(t, d, "a", "12")
	}
}

// Di2: of the last one, a Cut, all is done, or nothing.
func TestDi2Cut(t *testing.T) {
	for _, half := range []bool{false, true} {
		for n := range 5 {
			d := fresh(t, 100)
			done(t, d.Append("a", "12"), d.Sync("a"), d.Append("a", "34"))
			d.Fuse(1, half)
			answers(t, "Cut", d.Cut("a", n), api.ErrDead)
			still(t, d)
			done(t, d.Crash([]int{1}))
			want := "123"
			if half {
				want = []string{"", "1", "12", "123", "123"}[n]
			}
			if want == "" {
				holds(t, d)
				continue
			}
			holds(t, d, "a", want)
		}
	}
}

// Di2: of the last one, a Rename, all is done, or nothing.
func TestDi2Rename(t *testing.T) {
	for _, half := range []bool{false, true} {
		d := fresh(t, 8)
		done(t, d.Append("a", "12"), d.Sync("a"), d.Append("a", "3"), d.Append("b", "xyz"), d.Sync("b"))
		d.Fuse(1, half)
		answers(t, "Rename", d.Rename("a", "b"), api.ErrDead)
		still(t, d)
		done(t, d.Crash(nil))
		if half {
			holds(t, d, "b", "12")
			answers(t, "Append", d.Append("b", "1234567"), api.ErrFull)
			done(t, d.Append("b", "123456"))
			continue
		}
		holds(t, d, "a", "12", "b", "xyz")
		answers(t, "Append", d.Append("b", "1234"), api.ErrFull)
		done(t, d.Append("b", "123"))
	}
}

// Di2: what is told to a disk that stands still is forgotten by the crash.
func TestDi2Still(t *testing.T) {
	d := fresh(t, 100)
	done(t, d.Append("a", "x"), d.Sync("a"))
	d.Fuse(1, false)
	answers(t, "Cut", d.Cut("a", 0), api.ErrDead)
	d.Fuse(0, false)
	still(t, d)
	d.Fuse(1, true)
	still(t, d)
	done(t, d.Crash(nil), d.Sync("a"), d.Sync("a"), d.Sync("a"))
	holds(t, d, "a", "x")
}

// Di3: of what is not sure so many of the first bytes are kept, modulo one more than there are.
func TestDi3Keep(t *testing.T) {
	behind := "abcdefg"
	for u := range len(behind) + 1 {
		for keep := range 40 {
			d := fresh(t, 100)
			done(t, d.Append("a", "12"), d.Sync("a"), d.Append("a", behind[:u]))
			done(t, d.Crash([]int{keep}))
			holds(t, d, "a", "12"+behind[:keep%(u+1)])
		}
	}
}

// Di3: just the lowest 62 bits of a number count.
func TestDi3LowestBits(t *testing.T) {
	for keep, want := range map[int]int{
		1<<62 - 1:         (1<<62 - 1) % 8,
		1<<62 - 2:         (1<<62 - 2) % 8,
		1 << 62:           0,
		1<<62 + 3:         3,
		1<<62 + 9:         1,
		math.MaxInt:       (1<<62 - 1) % 8,
		math.MinInt:       0,
		math.MinInt + 5:   5,
		-1:                (1<<62 - 1) % 8,
		-2:                (1<<62 - 2) % 8,
		-1 << 62:          0,
		-1<<62 + 4:        4,
		-1<<62 - 1:        (1<<62 - 1) % 8,
		math.MinInt + 100: 100 % 8,
	} {
		d := fresh(t, 100)
		done(t, d.Append("a", "1234567"), d.Crash([]int{keep}))
		if want == 0 {
			holds(t, d)
			continue
		}
		holds(t, d, "a", "1234567"[:want])
	}
	for keep, want := range map[int]int{1<<62 - 1: 3, 1 << 62: 0, math.MaxInt: 3, -1: 3, -5: 4, math.MinInt + 13: 3, 1<<62 + 8: 3} {
		// 2^62 - 1 is 3 modulo 5, as 2^4 is 1.
		d := fresh(t, 100)
		done(t, d.Append("a", "s"), d.Sync("a"), d.Append("a", "1234"), d.Crash([]int{keep}))
		holds(t, d, "a", "s"+"1234"[:want])
	}
}

// Di3: numbers go to the files by their names, also past those of which all is sure, and those without bytes.
func TestDi3Order(t *testing.T) {
	d := fresh(t, 1000)
	done(t, d.Append("d", "dddd"), d.Append("b", ""), d.Append("a", "aaaa"), d.Append("e", "eeee"), d.Append("c", "cc"), d.Sync("c"), d.Append(".", "...."))
	done(t, d.Crash([]int{1, 2, 9, 9, 3, 4, 9, 9}))
	holds(t, d, ".", ".", "a", "aa", "c", "cc", "d", "ddd", "e", "eeee")
}

// Di3: what has no number keeps nothing; numbers that have no file say nothing.
func TestDi3Shorter(t *testing.T) {
	for n := range 6 {
		d := fresh(t, 1000)
		var want []string
		for k, name := range []string{"a", "b", "c"} {
			done(t, d.Append(name, "s"), d.Sync(name), d.Append(name, "xyz"))
			want = append(want, name, "s"+"xyz"[:min(3, max(0, 3*(n-k)))])
		}
		done(t, d.Crash([]int{3, 3, 3, 3, 3, 3}[:n]))
		holds(t, d, want...)
	}
	for _, keep := range [][]int{nil, {}, {5}} {
		d := fresh(t, 0)
		done(t, d.Crash(keep))
		holds(t, d)
	}
}

// Di3: files without bytes are gone: such as had none, were cut, or of which nothing was kept.
func TestDi3Gone(t *testing.T) {
	d := fresh(t, 1000)
	done(t, d.Append("a", ""), d.Append("b", "x"), d.Sync("b"), d.Cut("b", 0), d.Append("c", "xyz"), d.Append("d", "x"), d.Append("e", ""), d.Sync("e"))
	done(t, d.Crash([]int{1, 1, 4, 1, 1}))
	holds(t, d, "d", "x")
	for _, name := range []string{"a", "b", "c", "e"} {
		lacks(t, d, name)
		answers(t, "Cut", d.Cut(name, 0), api.ErrNone)
	}
}

// Di3: what a crash left is sure: another one takes nothing.
func TestDi3AllSure(t *testing.T) {
	d := fresh(t, 1000)
	done(t, d.Append("a", "12"), d.Sync("a"), d.Append("a", "345"), d.Append("b", "xyz"), d.Crash([]int{1, 2}))
	for range 3 {
		holds(t, d, "a", "123", "b", "xy")
		done(t, d.Crash(nil))
	}
	done(t, d.Append("a", "6"), d.Crash(nil))
	holds(t, d, "a", "123", "b", "xy")
}

// Di3: behind a crash the disk goes on, and none is the last operation, whether it stood still or not.
func TestDi3GoesOn(t *testing.T) {
	for _, ahead := range []int{0, 1, 2, 5} {
		d := fresh(t, 1000)
		done(t, d.Append("a", "x"), d.Sync("a"))
		d.Fuse(ahead, true)
		if ahead == 1 {
			answers(t, "Append", d.Append("b", "y"), api.ErrDead)
		} else {
			done(t, d.Append("b", "y"))
		}
		done(t, d.Crash([]int{0, 1}))
		holds(t, d, "a", "x", "b", "y")
		if d.Ops() != 3 {
			t.Errorf("Ops: %d", d.Ops())
		}
		for range 10 {
			done(t, d.Append("a", "x"), d.Cut("a", 1))
		}
		holds(t, d, "a", "x", "b", "y")
	}
}

// Di3: half is of the last one alone: behind the crash, and ahead of it, all is done.
func TestDi3HalfForgotten(t *testing.T) {
	d := fresh(t, 1000)
	done(t, d.Append("a", "xy"))
	d.Fuse(3, false)
	done(t, d.Sync("a"), d.Rename("a", "b"))
	answers(t, "Cut", d.Cut("b", 0), api.ErrDead)
	done(t, d.Crash(nil))
	holds(t, d, "b", "xy")
	done(t, d.Cut("b", 1), d.Rename("b", "c"), d.Append("c", "z"), d.Sync("c"), d.Crash(nil))
	holds(t, d, "c", "xz")
}

// Di4: what was sure stands at the beginning of its file behind each crash there may be, till it is cut or replaced.
func TestDi4Sure(t *testing.T) {
	r := chance()
	for at := 1; at < 8; at++ {
		for _, half := range []bool{false, true} {
			for keep := range 9 {
				d := fresh(t, 1000)
				done(t, d.Append("log", "sure"), d.Sync("log"), d.Append("a", "x"))
				d.Fuse(at, half)
				for k := 0; k < 100 && !d.Dead(); k++ {
					switch r.IntN(4) {
					case 0:
						d.Append("log", "more")
					case 1:
						d.Sync("log")
					case 2:
						d.Cut("log", 4+r.IntN(3))
					case 3:
						d.Rename("a", "b")
						d.Append("a", "y")
					}
				}
				done(t, d.Crash([]int{keep, keep, keep}))
				if s, e := d.Read("log"); !strings.HasPrefix(s, "sure") || e != api.OK {
					t.Fatalf("at %d, half %v, keep %d: %q, %d", at, half, keep, s, e)
				}
			}
		}
	}
}

// Di4: a file that was written beside, made sure, and renamed, is the elder or the new one, whole; once answered, the new one.
func TestDi4Replaced(t *testing.T) {
	elder, young := "the elder one", "the new one, and more of it"
	seen := map[string]int{}
	for at := range 8 {
		for _, half := range []bool{false, true} {
			for keep := range 60 {
				d := fresh(t, 1000)
				done(t, d.Append("snap", elder), d.Sync("snap"))
				d.Fuse(at, half)
				d.Append("snap.new", young[:9])
				d.Append("snap.new", young[9:])
				d.Sync("snap.new")
				answered := d.Rename("snap.new", "snap") == api.OK
				done(t, d.Crash([]int{keep, keep}))
				s, e := d.Read("snap")
				if e != api.OK || s != elder && s != young || answered && s != young {
					t.Fatalf("at %d, half %v, keep %d: %q, %d", at, half, keep, s, e)
				}
				if s == young && !answered && (at != 4 || !half) {
					t.Fatalf("at %d, half %v, keep %d: the new one too early", at, half, keep)
				}
				seen[s]++
			}
		}
	}
	if len(seen) != 2 {
		t.Errorf("%v", seen)
	}
}

// paper is a file of another hand's disk.
type paper struct {
	name, bytes string
	sure        int
}

// other is a disk by another hand: its files stand in a row.
type other struct {
	room, ops, fuse int
	half, dead      bool
	files           []paper
}

// find is where a file stands; -1, if there is none.
func (o *other) find(name string) int {
	return slices.IndexFunc(o.files, func(p paper) bool { return p.name == name })
}

// used is how many bytes all files have.
func (o *other) used() int {
	n := 0
	for _, p := range o.files {
		n += len(p.bytes)
	}
	return n
}

// goOn is what the next operation is answered, and whether it is done; torn: the last one is done, too.
func (o *other) goOn(torn bool) (api.Errno, bool) {
	o.ops++
	o.fuse--
	if o.fuse != 0 {
		return api.OK, true
	}
	o.dead = true
	return api.ErrDead, torn || o.half
}

// named tells whether a text is a name.
func named(s string) bool {
	return s != "" && len(s) < 13 && strings.Trim(s, ".abcdefghijklmnopqrstuvwxyz") == ""
}

func (o *other) append(name, s string) api.Errno {
	switch {
	case o.dead:
		return api.ErrDead
	case !named(name):
		return api.ErrArg
	case o.used()+len(s) > o.room:
		return api.ErrFull
	}
	if o.find(name) < 0 {
		o.files = append(o.files, paper{name: name})
	}
	o.files[o.find(name)].bytes += s
	e, _ := o.goOn(true)
	return e
}

func (o *other) sync(name string) api.Errno {
	i := o.find(name)
	switch {
	case o.dead:
		return api.ErrDead
	case i < 0:
		return api.ErrNone
	}
	e, do := o.goOn(false)
	if do {
		o.files[i].sure = len(o.files[i].bytes)
	}
	return e
}

func (o *other) cut(name string, n int) api.Errno {
	i := o.find(name)
	switch {
	case o.dead:
		return api.ErrDead
	case i < 0:
		return api.ErrNone
	case n < 0 || n > len(o.files[i].bytes):
		return api.ErrArg
	}
	e, do := o.goOn(false)
	if do {
		o.files[i].bytes = o.files[i].bytes[:n]
		o.files[i].sure = min(o.files[i].sure, n)
	}
	return e
}

func (o *other) rename(from, to string) api.Errno {
	i := o.find(from)
	switch {
	case o.dead:
		return api.ErrDead
	case !named(to):
		return api.ErrArg
	case i < 0:
		return api.ErrNone
	}
	e, do := o.goOn(false)
	if do && from != to {
		o.files[i].name = "?"
		o.files = slices.DeleteFunc(o.files, func(p paper) bool { return p.name == to })
		o.files[o.find("?")].name = to
	}
	return e
}

func (o *other) crash(keep []int) api.Errno {
	slices.SortFunc(o.files, func(a, b paper) int { return strings.Compare(a.name, b.name) })
	for k := range o.files {
		p := &o.files[k]
		n := uint64(0)
		if k < len(keep) {
			n = uint64(keep[k]) << 2 >> 2
		}
		p.sure += int(n % uint64(len(p.bytes)-p.sure+1))
		p.bytes = p.bytes[:p.sure]
	}
	o.files = slices.DeleteFunc(o.files, func(p paper) bool { return p.bytes == "" })
	o.dead, o.fuse = false, 0
	return api.OK
}

// alike holds all that a disk tells against another hand's.
func alike(t *testing.T, d *disk.Disk, o *other) bool {
	t.Helper()
	if d.Dead() != o.dead || d.Ops() != o.ops {
		t.Errorf("Dead %v, Ops %d, want %v, %d", d.Dead(), d.Ops(), o.dead, o.ops)
	}
	if o.dead {
		if l, n := d.Names(), d.Used(); l != nil || n != 0 {
			t.Errorf("it stands still: Names %q, Used %d", l, n)
		}
		return !t.Failed()
	}
	slices.SortFunc(o.files, func(a, b paper) int { return strings.Compare(a.name, b.name) })
	var l []string
	for _, p := range o.files {
		l = append(l, p.name, p.bytes)
	}
	holds(t, d, l...)
	return !t.Failed()
}

// walk are calls by chance on a disk, and on another hand's: each is to be answered alike.
func walk(t *testing.T, r *rand.Rand, room, calls int) bool {
	t.Helper()
	names := []string{"a", "b", "c", "log", "snap.new", ".", "abcdefghijkl", "", "B", "abcdefghijklm"}
	d, o := fresh(t, room), &other{room: room}
	for range calls {
		name, to := names[r.IntN(len(names))], names[r.IntN(len(names))]
		s := strings.Repeat(string(rune('a'+r.IntN(26))), r.IntN(room/3+2))
		var got, want api.Errno
		switch k := r.IntN(20); {
		case k < 7:
			got, want = d.Append(name, s), o.append(name, s)
		case k < 11:
			got, want = d.Sync(name), o.sync(name)
		case k < 14:
			n := r.IntN(room+3) - 1
			got, want = d.Cut(name, n), o.cut(name, n)
		case k < 17:
			got, want = d.Rename(name, to), o.rename(name, to)
		case k < 18:
			n, half := r.IntN(9)-1, r.IntN(2) == 0
			d.Fuse(n, half)
			o.fuse, o.half = max(n, 0), half
		default:
			keep := make([]int, r.IntN(8))
			for i := range keep {
				keep[i] = int(r.Uint64() >> r.IntN(64))
			}
			got, want = d.Crash(keep), o.crash(keep)
		}
		if got != want {
			t.Errorf("answered %d, want %d", got, want)
		}
		if !alike(t, d, o) {
			return false
		}
	}
	return true
}

// Di1 to Di4: calls by chance are answered as another hand's disk answers them.
func TestDiChance(t *testing.T) {
	r := chance()
	for k := range 1500 {
		if !walk(t, r, []int{0, 1, 3, 8, 30, 100}[k%6], 60) {
			t.Fatalf("in walk %d", k)
		}
	}
}

// R1: of a nil disk, and of one that New did not give: nothing, and ErrArg; it stands still, whatever is done.
func TestR1NotGiven(t *testing.T) {
	for _, d := range []*disk.Disk{nil, {}, new(disk.Disk)} {
		for range 2 {
			for _, name := range []string{"a", "", "B"} {
				answers(t, "Append", d.Append(name, "x"), api.ErrArg)
				answers(t, "Sync", d.Sync(name), api.ErrArg)
				answers(t, "Cut", d.Cut(name, 0), api.ErrArg)
				answers(t, "Rename", d.Rename(name, "a"), api.ErrArg)
				if s, e := d.Read(name); s != "" || e != api.ErrArg {
					t.Errorf("Read: %q, %d", s, e)
				}
			}
			if l := d.Names(); len(l) != 0 || d.Used() != 0 || d.Ops() != 0 || !d.Dead() {
				t.Errorf("%q, %d, %d, %v", l, d.Used(), d.Ops(), d.Dead())
			}
			d.Fuse(1, true)
			answers(t, "Crash", d.Crash(nil), api.ErrArg)
			answers(t, "Crash", d.Crash([]int{1}), api.ErrArg)
		}
	}
}

// R1: a great file in small pieces, and many files, come to an end.
func TestR1Many(t *testing.T) {
	d := fresh(t, mostRoom)
	for range mostRoom / 64 {
		d.Append("log", strings.Repeat("x", 64))
		d.Sync("log")
	}
	holds(t, d, "log", strings.Repeat("x", mostRoom))
	d = fresh(t, mostRoom)
	for i := range 26 * 26 * 26 {
		done(t, d.Append(string([]byte{byte('a' + i%26), byte('a' + i/26%26), byte('a' + i/676)}), "x"))
	}
	if len(d.Names()) != 26*26*26 || d.Used() != 26*26*26 {
		t.Errorf("%d files, %d bytes", len(d.Names()), d.Used())
	}
}

// R2: a call that is refused has changed nothing: neither bytes, nor what is sure.
func TestR2Refused(t *testing.T) {
	d := fresh(t, 6)
	done(t, d.Append("a", "12"), d.Sync("a"), d.Append("a", "34"))
	answers(t, "Append", d.Append("a", "567"), api.ErrFull)
	answers(t, "Append", d.Append("b", "567"), api.ErrFull)
	answers(t, "Cut", d.Cut("a", 5), api.ErrArg)
	answers(t, "Cut", d.Cut("a", -1), api.ErrArg)
	answers(t, "Rename", d.Rename("a", ""), api.ErrArg)
	answers(t, "Rename", d.Rename("b", "a"), api.ErrNone)
	holds(t, d, "a", "1234")
	done(t, d.Crash(nil))
	holds(t, d, "a", "12")
}

// R3: what a crash is to keep is not read beyond its end, and not changed.
func TestR3Keep(t *testing.T) {
	room := []int{1, -1, 3, 3}
	d := fresh(t, 100)
	done(t, d.Append("a", "123"), d.Append("b", "123"), d.Append("c", "123"), d.Crash(room[:2]))
	holds(t, d, "a", "1", "b", "123")
	if !slices.Equal(room, []int{1, -1, 3, 3}) {
		t.Errorf("%v", room)
	}
}

// R3: a list of names is new memory, and what was read stays as it was.
func TestR3Answers(t *testing.T) {
	d := fresh(t, 100)
	done(t, d.Append("a", "123"), d.Append("b", "456"))
	l, m := d.Names(), d.Names()
	l[0] = "changed"
	_ = append(l[:1], "changed too")
	if !slices.Equal(m, []string{"a", "b"}) {
		t.Errorf("%q", m)
	}
	s, _ := d.Read("a")
	done(t, d.Cut("a", 0), d.Append("a", "xyz"), d.Append("b", "more"))
	if s != "123" {
		t.Errorf("%q", s)
	}
	holds(t, d, "a", "xyz", "b", "456more")
}

// R3: names and texts are not read beyond their ends.
func TestR3TextIn(t *testing.T) {
	long := "abcdefghijklmnop"
	d := fresh(t, 100)
	done(t, d.Append(long[:12], long[12:14]), d.Rename(long[:12], long[3:5]))
	holds(t, d, "de", "mn")
}

// R4: two disks know nothing of each other; the same calls are answered the same.
func TestR4Two(t *testing.T) {
	a, b := fresh(t, 10), fresh(t, 10)
	done(t, a.Append("a", "1234567890"), b.Append("b", "x"))
	a.Fuse(1, true)
	done(t, b.Sync("b"))
	answers(t, "Sync", a.Sync("a"), api.ErrDead)
	holds(t, b, "b", "x")
	done(t, b.Crash(nil))
	still(t, a)
	done(t, a.Crash(nil))
	holds(t, a, "a", "1234567890")
	for range 5 {
		if !walk(t, chance(), 30, 200) {
			t.Fatal("answered otherwise")
		}
	}
}
