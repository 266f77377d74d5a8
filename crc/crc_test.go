package crc_test

import (
	"bottomry/crc"
	"hash/crc32"
	"math"
	"math/rand/v2"
	"strings"
	"testing"
)

const (
	mostZeros = 1 << 20
	ones      = math.MaxUint32
)

// texts are texts of several lengths: those of bytes and those that are no runes.
func texts() []string {
	all := make([]byte, 256)
	for i := range all {
		all[i] = byte(i)
	}
	return []string{
		"", "a", "abc", "123456789", "message digest", "The quick brown fox jumps over the lazy dog",
		"\x00", "\x00\x00\x00\x00", "\xff", "\xff\xff\xff\xff", "\x80", "\xc3\xa4\xe2\x82\xac", "\xed\xa0\x80\xf8\xc3",
		string(all), strings.Repeat("\x00", 300), strings.Repeat("ab\xffc", 1024),
	}
}

// sums are numbers of 32 bits that something is put behind.
func sums() []uint32 {
	return []uint32{0, 1, 2, 77, 0xff, 0x100, 0xcbf43926, 0xedb88320, 0x12477cdf, 1 << 31, ones - 1, ones}
}

// chance are numbers that are the same at each run.
func chance() *rand.Rand { return rand.New(rand.NewPCG(3, 8)) }

// bytesBy is a text of so many bytes.
func bytesBy(r *rand.Rand, n int) string {
	l := make([]byte, n)
	for i := range l {
		l[i] = byte(r.Uint32())
	}
	return string(l)
}

// together are texts of as many bytes, put together by exclusive or.
func together(l ...string) string {
	sum := make([]byte, len(l[0]))
	for _, s := range l {
		for i := range sum {
			sum[i] ^= s[i]
		}
	}
	return string(sum)
}

// turned is a text with bits turned from one of its bits on, each of which is a bit of the pattern, the lowest first.
func turned(s string, from int, pattern uint32) string {
	l := []byte(s)
	for i := range 32 {
		if pattern>>i&1 == 1 {
			l[(from+i)/8] ^= 1 << ((from + i) % 8)
		}
	}
	return string(l)
}

// Cr1: sums that are written out.
func TestCr1SumWritten(t *testing.T) {
	for _, x := range []struct {
		s    string
		want uint32
	}{
		{"", 0},
		{"a", 0xe8b7be43},
		{"abc", 0x352441c2},
		{"123456789", 0xcbf43926},
		{"message digest", 0x20159d7f},
		{"The quick brown fox jumps over the lazy dog", 0x414fa339},
		{"\x00", 0xd202ef8d},
		{"\xff", 0xff000000},
		{"\x00\x00\x00\x00", 0x2144df1c},
		{"\xff\xff\xff\xff", ones},
	} {
		if n := crc.Sum(x.s); n != x.want {
			t.Errorf("Sum(%q) = %08x, want %08x", x.s, n, x.want)
		}
	}
}

// Cr1: a byte that comes to all bits turned, by hand: what is put on leaves a lowest bit alone, or nothing.
func TestCr1MoreWritten(t *testing.T) {
	for _, x := range []struct {
		sum  uint32
		s    string
		want uint32
	}{
		{0, "", 0}, {77, "", 77}, {ones, "", ones},
		// All bits turned are 0: no step puts anything on.
		{ones, "\x00", ones}, {ones, "\x00\x00\x00", ones},
		// 0 and the byte 80: the lowest bit is 1 just ahead of the last step.
		{ones, "\x80", ^uint32(0xedb88320)},
		// The same, but that the bit was in the number.
		{^uint32(0x80), "\x00", ^uint32(0xedb88320)},
		// Byte and number take one another away.
		{^uint32(0x80), "\x80", ones},
		// The bits above a byte's are just shifted down.
		{^uint32(0xabcdef00), "\x00", ^uint32(0x00abcdef)},
		{0, "a", 0xe8b7be43},
	} {
		if n := crc.More(x.sum, x.s); n != x.want {
			t.Errorf("More(%08x, %q) = %08x, want %08x", x.sum, x.s, n, x.want)
		}
	}
}

// Cr1: each text behind each sum, as another hand reckons it; Sum is that of 0.
func TestCr1More(t *testing.T) {
	for _, s := range texts() {
		for _, sum := range sums() {
			if n, want := crc.More(sum, s), crc32.Update(sum, crc32.IEEETable, []byte(s)); n != want {
				t.Errorf("More(%08x, %q) = %08x, want %08x", sum, s, n, want)
			}
		}
		if n, want := crc.Sum(s), crc32.ChecksumIEEE([]byte(s)); n != want || n != crc.More(0, s) {
			t.Errorf("Sum(%q) = %08x, want %08x", s, n, want)
		}
	}
}

// Cr1: all texts of one byte, and of two, as another hand reckons them.
func TestCr1SmallTexts(t *testing.T) {
	for i := range 1 << 16 {
		both := []byte{byte(i), byte(i >> 8)}
		for size := 1; size <= 2; size++ {
			l := both[:size]
			if n, want := crc.Sum(string(l)), crc32.ChecksumIEEE(l); n != want {
				t.Fatalf("Sum(%x) = %08x, want %08x", l, n, want)
			}
		}
	}
}

// Cr1: bytes come in order.
func TestCr1Order(t *testing.T) {
	if crc.Sum("ab") == crc.Sum("ba") {
		t.Error("ab and ba have one sum")
	}
	if n := crc.Sum("ab"); n != 0x9e83486d {
		t.Errorf("Sum of ab: %08x", n)
	}
}

// Cr1: so many bytes 0, for each few of them, behind each sum.
func TestCr1Zeros(t *testing.T) {
	for _, sum := range sums() {
		for n := range 300 {
			if z, want := crc.Zeros(sum, n), crc.More(sum, strings.Repeat("\x00", n)); z != want {
				t.Fatalf("Zeros(%08x, %d) = %08x, want %08x", sum, n, z, want)
			}
		}
	}
}

// Cr1: zeros that are written out.
func TestCr1ZerosWritten(t *testing.T) {
	for _, x := range []struct {
		sum  uint32
		n    int
		want uint32
	}{
		{0, 0, 0}, {0, 1, 0xd202ef8d}, {0, 4, 0x2144df1c}, {ones, 1, ones}, {ones, mostZeros, ones}, {^uint32(0xab00), 1, ^uint32(0xab)},
	} {
		if z := crc.Zeros(x.sum, x.n); z != x.want {
			t.Errorf("Zeros(%08x, %d) = %08x, want %08x", x.sum, x.n, z, x.want)
		}
	}
}

// Cr1: below 0 there are no zeros; above 2^20 there are 2^20, and just below it one less.
func TestCr1ZerosBounds(t *testing.T) {
	for _, sum := range sums() {
		for _, n := range []int{0, -1, -2, -mostZeros, math.MinInt32, -1 << 32, math.MinInt + 1, math.MinInt} {
			if z := crc.Zeros(sum, n); z != sum {
				t.Errorf("Zeros(%08x, %d) = %08x", sum, n, z)
			}
		}
	}
	const sum = 0xcbf43926
	most := crc32.Update(sum, crc32.IEEETable, make([]byte, mostZeros))
	for _, n := range []int{mostZeros, mostZeros + 1, 2 * mostZeros, 1 << 32, 1<<32 + 1, math.MaxInt - 1, math.MaxInt} {
		if z := crc.Zeros(sum, n); z != most {
			t.Errorf("Zeros of %d = %08x, want %08x", n, z, most)
		}
	}
	for _, n := range []int{mostZeros - 1, mostZeros / 2} {
		want := crc32.Update(sum, crc32.IEEETable, make([]byte, n))
		if z := crc.Zeros(sum, n); z != want || z == most {
			t.Errorf("Zeros of %d = %08x, want %08x", n, z, want)
		}
	}
}

// Cr2: each text parted at each place has its sum, also behind another sum.
func TestCr2PartedInTwo(t *testing.T) {
	for _, s := range texts() {
		for _, sum := range sums()[:3] {
			want := crc.More(sum, s)
			for i := 0; i <= len(s); i += 1 + len(s)/300 {
				if n := crc.More(crc.More(sum, s[:i]), s[i:]); n != want {
					t.Fatalf("%q behind %08x, parted at %d: %08x, want %08x", s, sum, i, n, want)
				}
			}
		}
	}
}

// Cr2: a short text parted in every way there is.
func TestCr2PartedEveryWay(t *testing.T) {
	s := "\x00b\xff45\x809"
	want := crc.Sum(s)
	for cuts := range 1 << (len(s) - 1) {
		sum, from := uint32(0), 0
		for i := range len(s) {
			if i == len(s)-1 || cuts>>i&1 == 1 {
				sum, from = crc.More(sum, s[from:i+1]), i+1
			}
		}
		if sum != want {
			t.Errorf("cuts %b: %08x, want %08x", cuts, sum, want)
		}
	}
}

// Cr2: zeros parted have the sum of all; those of a text's end may be told by their count.
func TestCr2PartedZeros(t *testing.T) {
	for _, n := range []int{0, 1, 5, 300, 5000} {
		for i := 0; i <= n; i += 1 + n/50 {
			if z, want := crc.Zeros(crc.Zeros(9, i), n-i), crc.Zeros(9, n); z != want {
				t.Errorf("%d zeros parted at %d: %08x, want %08x", n, i, z, want)
			}
		}
		if z, want := crc.Zeros(crc.Sum("xy"), n), crc.Sum("xy"+strings.Repeat("\x00", n)); z != want {
			t.Errorf("xy and %d zeros: %08x, want %08x", n, z, want)
		}
	}
}

// Cr2: of three texts of as many bytes the sums put together are the sum of the texts put together.
func TestCr2ThreeTogether(t *testing.T) {
	r := chance()
	for size := range 200 {
		a, b, c := bytesBy(r, size), bytesBy(r, size), bytesBy(r, size)
		zero := strings.Repeat("\x00", size)
		for _, l := range [][3]string{{a, b, c}, {a, a, b}, {a, b, zero}, {zero, zero, a}, {a, a, a}, {zero, zero, zero}} {
			sum := crc.Sum(l[0]) ^ crc.Sum(l[1]) ^ crc.Sum(l[2])
			if n := crc.Sum(together(l[:]...)); n != sum {
				t.Errorf("%x: %08x, want %08x", l, n, sum)
			}
		}
	}
}

// Cr2: bits within 32 neighbouring ones, turned at each place of a text: another sum.
func TestCr2BitsTurned(t *testing.T) {
	r := chance()
	for _, s := range []string{"\x00\x00\x00\x00", "\xff\xff\xff\xff", "1234567", "\x00\x00\x00\x00\x00\x80\x01\xff\x00", bytesBy(r, 40)} {
		sum := crc.Sum(s)
		for from := 0; from+32 <= 8*len(s); from++ {
			patterns := []uint32{ones, 1 | 1<<31, 0xedb88320, 0x04c11db7, 0xdb710641}
			for i := range 32 {
				patterns = append(patterns, 1<<i, ones>>i, r.Uint32()|1)
			}
			for low := range uint32(1 << 8) {
				patterns = append(patterns, 1+low)
			}
			for _, p := range patterns {
				if crc.Sum(turned(s, from, p)) == sum {
					t.Errorf("%x with %08x turned from %d on has the same sum", s, p, from)
				}
			}
		}
	}
}

// Cr2: texts of fewer than 32 bits: each has a sum of its own.
func TestCr2ShortTexts(t *testing.T) {
	seen := map[uint32]bool{}
	for i := range 1 << 16 {
		seen[crc.Sum(string([]byte{byte(i), byte(i >> 8)}))] = true
	}
	if len(seen) != 1<<16 {
		t.Errorf("texts of two bytes have %d sums", len(seen))
	}
}

// Cr2: what 32 single bits change at a place hangs together by no exclusive or: so not one of all 2^32-1 patterns leaves a sum.
func TestCr2EveryPattern(t *testing.T) {
	s := bytesBy(chance(), 24)
	sum := crc.Sum(s)
	for from := 0; from+32 <= 8*len(s); from++ {
		var tops [32]uint32 // by its highest bit, a change that the others do not make up
		for i := range 32 {
			change := crc.Sum(turned(s, from, 1<<i)) ^ sum
			for bit := 31; bit >= 0 && change != 0; bit-- {
				if change>>bit&1 == 0 {
					continue
				}
				if tops[bit] == 0 {
					tops[bit] = change
					break
				}
				change ^= tops[bit]
			}
			if change == 0 {
				t.Errorf("from %d on: a pattern that ends with bit %d leaves the sum", from, i)
			}
		}
	}
}

// R3: bytes behind a text's end are not read.
func TestR3PartOfAText(t *testing.T) {
	long := "123456789abc"
	if n := crc.Sum(long[:9]); n != 0xcbf43926 {
		t.Errorf("Sum of a part: %08x", n)
	}
	if n := crc.More(0, long[3:3]); n != 0 {
		t.Errorf("More of an empty part: %08x", n)
	}
}

// R4: asked twice, also with other things asked for between, it is answered the same.
func TestR4AskedTwice(t *testing.T) {
	for _, s := range texts() {
		sum, more, zeros := crc.Sum(s), crc.More(5, s), crc.Zeros(5, len(s))
		crc.Sum("between")
		crc.Zeros(1, 3)
		if crc.Sum(s) != sum || crc.More(5, s) != more || crc.Zeros(5, len(s)) != zeros {
			t.Errorf("%q: answered otherwise the second time", s)
		}
	}
}
