package frame_test

import (
	"bottomry/api"
	"bottomry/frame"
	"encoding/binary"
	"hash/crc32"
	"math"
	"math/rand/v2"
	"slices"
	"strings"
	"testing"
)

const (
	headSize = 8
	mostRoom = 4096
)

// chance are numbers that are the same at each run.
func chance() *rand.Rand { return rand.New(rand.NewPCG(4, 11)) }

// bytesBy is a text of so many bytes.
func bytesBy(r *rand.Rand, n int) string {
	l := make([]byte, n)
	for i := range l {
		l[i] = byte(r.Uint32())
	}
	return string(l)
}

// headed is a record behind a head that tells that length, and the record's own sum, by another hand.
func headed(length uint32, record string) string {
	l := binary.BigEndian.AppendUint32(nil, length)
	l = binary.BigEndian.AppendUint32(l, crc32.ChecksumIEEE([]byte(record)))
	return string(l) + record
}

// laid are a record's bytes, by another hand.
func laid(record string) string { return headed(uint32(len(record)), record) }

// allLaid are records' bytes, by another hand.
func allLaid(records []string) string {
	s := ""
	for _, record := range records {
		s += laid(record)
	}
	return s
}

// single are records of several lengths, the least and the greatest among them.
func single() []string {
	r := chance()
	l := []string{
		"a", "\x00", "\xff", "ab", "123456789", "\x00\x00\x00\x00", "\x00\x00\x00\x00\x00\x00\x00\x00", "\x00\x00\x00\x01\xe8\xb7\xbeCa",
		"\x80\xc3\xed\xa0", "the sum of this one: \n", strings.Repeat("\x00", 300), strings.Repeat("b", mostRoom-1), strings.Repeat("\xff", mostRoom),
	}
	for _, n := range []int{3, 7, 8, 9, 255, 256, 257, 1000, mostRoom - 1, mostRoom} {
		l = append(l, bytesBy(r, n))
	}
	return l
}

// rows are several records, one behind the other.
func rows() [][]string {
	return [][]string{
		nil, {"a"}, {"a", "a"}, {"a", "b", "c"}, {"\x00", "\x00\x00", "\x00\x00\x00"}, {"a", strings.Repeat("b", 300), "\x00"},
		{laid("a"), "a", laid(laid("a"))}, {strings.Repeat("x", mostRoom), "y", strings.Repeat("z", mostRoom)}, single(),
	}
}

// scans checks what Scan tells of a text.
func scans(t *testing.T, s string, want []string, taken int) {
	t.Helper()
	if l, n := frame.Scan(s); !slices.Equal(l, want) || n != taken {
		t.Errorf("Scan of %d bytes (%.20x..): %d records, %d bytes, want %d, %d", len(s), s, len(l), n, len(want), taken)
	}
}

// Fr1: bytes that are written out.
func TestFr1PutWritten(t *testing.T) {
	for _, x := range []struct{ record, want string }{
		{"a", "\x00\x00\x00\x01\xe8\xb7\xbe\x43a"},
		{"abc", "\x00\x00\x00\x03\x35\x24\x41\xc2abc"},
		{"\x00", "\x00\x00\x00\x01\xd2\x02\xef\x8d\x00"},
		{"\xff", "\x00\x00\x00\x01\xff\x00\x00\x00\xff"},
		{"123456789", "\x00\x00\x00\x09\xcb\xf4\x39\x26123456789"},
		{"The quick brown fox jumps over the lazy dog", "\x00\x00\x00\x2b\x41\x4f\xa3\x39The quick brown fox jumps over the lazy dog"},
	} {
		if s, e := frame.Put(x.record); s != x.want || e != api.OK {
			t.Errorf("Put(%q) = %x, %d, want %x", x.record, s, e, x.want)
		}
	}
}

// Fr1: the length has four bytes, the highest first: also one that has two bytes of its own.
func TestFr1PutLength(t *testing.T) {
	for n, want := range map[int]string{255: "\x00\x00\x00\xff", 256: "\x00\x00\x01\x00", 772: "\x00\x00\x03\x04", 4095: "\x00\x00\x0f\xff", 4096: "\x00\x00\x10\x00"} {
		s, e := frame.Put(strings.Repeat("k", n))
		if e != api.OK || len(s) != headSize+n || s[:4] != want {
			t.Errorf("Put of %d bytes: %d bytes, %d", n, len(s), e)
		}
	}
}

// Fr1: each record's bytes, by another hand.
func TestFr1Put(t *testing.T) {
	for _, record := range single() {
		if s, e := frame.Put(record); s != laid(record) || e != api.OK {
			t.Errorf("Put of %d bytes (%.20q..): %d bytes, %d", len(record), record, len(s), e)
		}
	}
}

// Fr1: no bytes, and too many, are none of a record.
func TestFr1PutWrong(t *testing.T) {
	for _, n := range []int{0, mostRoom + 1, mostRoom + 2, 2 * mostRoom, 1 << 16, 1<<16 + 1, 1 << 20} {
		if s, e := frame.Put(strings.Repeat("x", n)); s != "" || e != api.ErrArg {
			t.Errorf("Put of %d bytes: %d bytes, %d", n, len(s), e)
		}
	}
}

// Fr1: records' bytes stand one behind the other, in their order.
func TestFr1All(t *testing.T) {
	for _, l := range rows() {
		if s, e := frame.All(l); s != allLaid(l) || e != api.OK {
			t.Errorf("All of %d records: %d bytes, %d, want %d", len(l), len(s), e, len(allLaid(l)))
		}
	}
	if s, e := frame.All([]string{"a", "\xff"}); s != "\x00\x00\x00\x01\xe8\xb7\xbe\x43a\x00\x00\x00\x01\xff\x00\x00\x00\xff" || e != api.OK {
		t.Errorf("All of a and ff = %x, %d", s, e)
	}
}

// Fr1: of no record there are no bytes, and no error.
func TestFr1AllNone(t *testing.T) {
	for _, l := range [][]string{nil, {}} {
		if s, e := frame.All(l); s != "" || e != api.OK {
			t.Errorf("All of none = %x, %d", s, e)
		}
	}
}

// Fr1: one that is none, wherever it stands: nothing is told of the others.
func TestFr1AllWrong(t *testing.T) {
	for _, wrong := range []string{"", strings.Repeat("x", mostRoom+1), strings.Repeat("x", 1<<16)} {
		for at := range 4 {
			l := slices.Insert([]string{"a", "bc", strings.Repeat("d", mostRoom)}, at, wrong)
			if s, e := frame.All(l); s != "" || e != api.ErrArg {
				t.Errorf("All with %d bytes at %d: %d bytes, %d", len(wrong), at, len(s), e)
			}
		}
		if s, e := frame.All([]string{wrong}); s != "" || e != api.ErrArg {
			t.Errorf("All of %d bytes: %d bytes, %d", len(wrong), len(s), e)
		}
	}
}

// Fr1: how many bytes it takes, and 0 below 1 and above 4096.
func TestFr1Size(t *testing.T) {
	for n := -mostRoom; n <= 3*mostRoom; n++ {
		want := 0
		if n >= 1 && n <= mostRoom {
			want = headSize + n
		}
		if size := frame.Size(n); size != want {
			t.Errorf("Size(%d) = %d, want %d", n, size, want)
		}
	}
	for _, n := range []int{math.MinInt, math.MinInt + 1, math.MinInt32, -1 << 32, 1 << 32, 1<<32 + 1, math.MaxInt32, math.MaxInt - 8, math.MaxInt - 7, math.MaxInt - 1, math.MaxInt} {
		if size := frame.Size(n); size != 0 {
			t.Errorf("Size(%d) = %d", n, size)
		}
	}
	for _, record := range single() {
		if s, _ := frame.Put(record); len(s) != frame.Size(len(record)) {
			t.Errorf("%d bytes take %d, not %d", len(record), len(s), frame.Size(len(record)))
		}
	}
}

// Fr2: what was put is told, and all its bytes.
func TestFr2Whole(t *testing.T) {
	for _, l := range rows() {
		s := allLaid(l)
		scans(t, s, l, len(s))
		if put, e := frame.All(l); e == api.OK {
			scans(t, put, l, len(put))
		} else {
			t.Errorf("All of %d records: %d", len(l), e)
		}
	}
	for _, record := range single() {
		scans(t, laid(record), []string{record}, headSize+len(record))
	}
	scans(t, "\x00\x00\x00\x01\xe8\xb7\xbe\x43a", []string{"a"}, 9)
}

// Fr2: of a length that no record has there is none, though the sum is right.
func TestFr2LengthWrong(t *testing.T) {
	long := strings.Repeat("x", 1<<16+1)
	for _, n := range []int{0, mostRoom + 1, mostRoom + 2, 2 * mostRoom, 1 << 16, 1<<16 + 1} {
		scans(t, laid(long[:n]), nil, 0)
		scans(t, laid(long[:n])+laid("a"), nil, 0)
		scans(t, laid("a")+laid(long[:n])+laid("b"), []string{"a"}, 9)
	}
	scans(t, "\x00\x00\x00\x00\x00\x00\x00\x00", nil, 0)
}

// Fr2: each of a length's four bytes counts, also where those below it tell the right one.
func TestFr2LengthBytes(t *testing.T) {
	for _, length := range []uint32{
		0, 2, 1 + 1<<8, 1 + 1<<16, 1 + 1<<24, 1 + 1<<31, 1<<8 - 1, 1 << 8, 1 << 16, 1 << 24, 1 << 31, 1<<31 - 1, math.MaxUint32, math.MaxUint32 - 7, math.MaxUint32 - 8,
	} {
		scans(t, headed(length, "a"), nil, 0)
		scans(t, headed(length, "a")+strings.Repeat("a", 300), nil, 0)
		scans(t, headed(length, ""), nil, 0)
	}
}

// Fr2: a length that is one off, with bytes behind the record or without.
func TestFr2LengthOff(t *testing.T) {
	scans(t, headed(2, "abc"), nil, 0)
	scans(t, headed(4, "abc"), nil, 0)
	scans(t, headed(4, "abc")+"d", nil, 0)
	scans(t, headed(2, "abc")+laid("d"), nil, 0)
}

// Fr2: a sum of something else, or the right one with its bytes in another order.
func TestFr2SumWrong(t *testing.T) {
	for _, s := range []string{
		"\x00\x00\x00\x01\xe8\xb7\xbe\x42a", "\x00\x00\x00\x01\xe9\xb7\xbe\x43a", "\x00\x00\x00\x01\x43\xbe\xb7\xe8a", "\x00\x00\x00\x01\xe8\xb7\xbe\x43b",
		"\x01\x00\x00\x00\xe8\xb7\xbe\x43a", "\x00\x00\x00\x01\x00\x00\x00\x00a", "\x00\x00\x00\x01\xff\xff\xff\xffa", "\xe8\xb7\xbe\x43\x00\x00\x00\x01a",
	} {
		scans(t, s, nil, 0)
		scans(t, s+laid("c"), nil, 0)
		scans(t, laid("c")+s, []string{"c"}, 9)
	}
}

// Fr2: a bit turned anywhere: what stands ahead of it is told, and nothing from there on.
func TestFr2BitTurned(t *testing.T) {
	l := []string{"first", "\x00\x00", "the third one", "4"}
	s := allLaid(l)
	ends := []int{13, 23, 44, 53}
	for bit := range 8 * len(s) {
		b := []byte(s)
		b[bit/8] ^= 1 << (bit % 8)
		ahead := 0
		for ends[ahead] <= bit/8 {
			ahead++
		}
		taken := 0
		if ahead > 0 {
			taken = ends[ahead-1]
		}
		scans(t, string(b), l[:ahead], taken)
	}
}

// Fr2: what is no record behind those that are: nothing of it is counted.
func TestFr2Behind(t *testing.T) {
	for _, l := range rows() {
		s := allLaid(l)
		for _, behind := range []string{"\x00", "x", "\xff\xff\xff\xff", strings.Repeat("\x00", 7), strings.Repeat("\x00", 8), strings.Repeat("\x00", 5000), "\x00\x00\x00\x01", "\n" + laid("a")} {
			scans(t, s+behind, l, len(s))
		}
	}
}

// Fr2: from the first byte on: what stands behind another byte is not looked for.
func TestFr2Ahead(t *testing.T) {
	for _, ahead := range []string{"x", "\x00", "\x00\x00\x00\x00", strings.Repeat("\x00", 8), "\x00\x00\x00\x01"} {
		scans(t, ahead+laid("a")+laid("b"), nil, 0)
	}
	s := allLaid([]string{"ab", "cd"})
	for from := 1; from < len(s); from++ {
		if from != 10 {
			scans(t, s[from:], nil, 0)
		}
	}
	scans(t, s[10:], []string{"cd"}, 10)
}

// Fr2: of few bytes, or none, there is no record.
func TestFr2Few(t *testing.T) {
	for n := range 9 {
		scans(t, strings.Repeat("\x00", n), nil, 0)
		scans(t, strings.Repeat("\xff", n), nil, 0)
		scans(t, laid("a")[:n], nil, 0)
	}
}

// Fr2: bytes by chance: what is told has, put again, just the bytes that are told, and behind it stands no record.
func TestFr2Chance(t *testing.T) {
	r := chance()
	for range 3000 {
		s := ""
		for range r.IntN(6) {
			record := bytesBy(r, 1+r.IntN(20))
			if r.IntN(8) == 0 {
				s += bytesBy(r, r.IntN(12))
			}
			s += laid(record)
		}
		l, n := frame.Scan(s)
		if n > len(s) || s[:n] != allLaid(l) {
			t.Fatalf("Scan(%x): %q, %d", s, l, n)
		}
		if more, _ := frame.Scan(s[n:]); len(more) != 0 {
			t.Fatalf("Scan(%x): %q is left", s, more)
		}
	}
}

// Fr2: many records are told as few are.
func TestFr2Many(t *testing.T) {
	r := chance()
	var l []string
	for range 20000 {
		l = append(l, bytesBy(r, 1+r.IntN(9)))
	}
	s, e := frame.All(l)
	if e != api.OK {
		t.Fatal(e)
	}
	scans(t, s, l, len(s))
	scans(t, s[:len(s)-1], l[:len(l)-1], len(s)-headSize-len(l[len(l)-1]))
}

// Fr3: cut anywhere, just those are told that are there whole.
func TestFr3Cut(t *testing.T) {
	for _, l := range [][]string{
		{"a"}, {"a", "b", "c"}, {strings.Repeat("\x00", 9), "\x00"}, {"a", strings.Repeat("b", 300), "\x00"}, {laid("a"), "xyz", laid("b") + laid("c")},
		{strings.Repeat("\xff", mostRoom), "e", strings.Repeat("f", mostRoom)},
	} {
		s := allLaid(l)
		whole, taken := 0, 0
		for n := range len(s) + 1 {
			if whole < len(l) && taken+headSize+len(l[whole]) == n {
				whole, taken = whole+1, n
			}
			scans(t, s[:n], l[:whole], taken)
		}
		if whole != len(l) {
			t.Errorf("%d of %d were whole", whole, len(l))
		}
	}
}

// Fr3: a record of zeros, cut and with zeros in the place of what is gone, is told if none but zeros of its own are gone.
func TestFr3CutZeros(t *testing.T) {
	s := laid("a\x00\x00\x00")
	for n := range len(s) + 1 {
		filled := s[:n] + strings.Repeat("\x00", len(s)-n)
		if n < 9 {
			scans(t, filled, nil, 0)
		} else {
			scans(t, filled, []string{"a\x00\x00\x00"}, 12)
		}
	}
}

// R1: whatever bytes there are, and however many, they are gone through to an end.
func TestR1AnyBytes(t *testing.T) {
	r := chance()
	for range 20000 {
		s := bytesBy(r, r.IntN(40))
		if l, n := frame.Scan(s); len(l) != 0 || n != 0 {
			t.Errorf("Scan(%x): %q, %d", s, l, n)
		}
	}
	for _, s := range []string{strings.Repeat("\x00", 1<<20), strings.Repeat("\xff", 1<<20), strings.Repeat("\x00\x00\x00\x01", 1<<18)} {
		scans(t, s, nil, 0)
		if put, e := frame.Put(s); put != "" || e != api.ErrArg {
			t.Errorf("Put of %d bytes: %d", len(s), e)
		}
	}
}

// R2: beside an error there are no bytes.
func TestR2NoBytesBesideAnError(t *testing.T) {
	if s, e := frame.All([]string{"a", "b", ""}); s != "" || e != api.ErrArg {
		t.Errorf("%x, %d", s, e)
	}
	if s, e := frame.Put(""); s != "" || e != api.ErrArg {
		t.Errorf("%x, %d", s, e)
	}
}

// R3: a list is not read beyond its end, nor changed.
func TestR3ListIn(t *testing.T) {
	room := []string{"a", "b", "", strings.Repeat("x", 5000)}
	s, e := frame.All(room[:2])
	if s != allLaid([]string{"a", "b"}) || e != api.OK {
		t.Errorf("%x, %d", s, e)
	}
	frame.All(room)
	if room[0] != "a" || room[1] != "b" || room[2] != "" || len(room[3]) != 5000 {
		t.Error("the list was changed")
	}
}

// R3: a text is not read beyond its end.
func TestR3TextIn(t *testing.T) {
	s := allLaid([]string{"ab", "cd", "ef"})
	scans(t, s[:20], []string{"ab", "cd"}, 20)
	scans(t, s[:19], []string{"ab"}, 10)
	if put, e := frame.Put(s[8:10]); put != s[:10] || e != api.OK {
		t.Errorf("%x, %d", put, e)
	}
}

// R3: each answer's list is one of its own.
func TestR3ListOut(t *testing.T) {
	s := allLaid([]string{"ab", "cd", "ef"})
	l, _ := frame.Scan(s)
	m, _ := frame.Scan(s)
	l[0] = "changed"
	_ = append(l[:1], "changed too")
	if !slices.Equal(m, []string{"ab", "cd", "ef"}) {
		t.Errorf("%q", m)
	}
	scans(t, s, []string{"ab", "cd", "ef"}, 30)
}

// R4: asked twice, also with other things asked for between, it is answered the same.
func TestR4AskedTwice(t *testing.T) {
	for _, l := range rows() {
		s, e := frame.All(l)
		m, n := frame.Scan(s)
		frame.Put("between")
		frame.Scan(laid("between") + "x")
		again, f := frame.All(l)
		k, o := frame.Scan(again)
		if s != again || e != f || n != o || !slices.Equal(m, k) {
			t.Errorf("%d records: answered otherwise the second time", len(l))
		}
	}
}
