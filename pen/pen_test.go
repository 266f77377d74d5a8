package pen_test

import (
	"bottomry/pen"
	"encoding/binary"
	"math"
	"math/big"
	"slices"
	"strings"
	"testing"
)

const maxInt = math.MaxInt

// edges are numbers about which one more byte is needed, or a sign changes, or an int ends.
func edges() []int {
	l := []int{0, 2, 3, 63, 64, 65, 300, 1 << 16, 1 << 20, 1 << 40, 1 << 50, 1 << 60, 1 << 62, maxInt - 1, maxInt}
	for bits := 7; bits < 63; bits += 7 {
		l = append(l, 1<<(bits-1)-1, 1<<(bits-1), 1<<bits-1, 1<<bits, 1<<bits+1)
	}
	for _, n := range slices.Clone(l) {
		l = append(l, -n, ^n)
	}
	slices.Sort(l)
	return slices.Compact(l)
}

// bytesOf are a number's bytes, as another hand writes them.
func bytesOf(n uint64) string { return string(binary.AppendUvarint(nil, n)) }

// placeOf is a number's place in the row, reckoned without bounds.
func placeOf(n int) uint64 {
	p := big.NewInt(int64(n))
	if n >= 0 {
		return p.Mul(p, big.NewInt(2)).Uint64()
	}
	p.Sub(big.NewInt(-1), p)
	return p.Add(p.Mul(p, big.NewInt(2)), big.NewInt(1)).Uint64()
}

// checkBad looks at a reader that is to be bad: so it is now, and whatever it is asked for.
func checkBad(t *testing.T, what string, r *pen.Reader) {
	t.Helper()
	for range 2 {
		if !r.Bad() || r.Done() || r.Left() != 0 {
			t.Errorf("%s: bad %v, done %v, left %d", what, r.Bad(), r.Done(), r.Left())
		}
		for _, most := range []int{math.MinInt, -1, 0, 1, 5, maxInt} {
			if u, s, n := r.Uint(most), r.Text(most), r.Times(most); u != 0 || s != "" || n != 0 {
				t.Errorf("%s: Uint, Text and Times of %d: %d, %q, %d", what, most, u, s, n)
			}
		}
		if n := r.Int(); n != 0 {
			t.Errorf("%s: Int: %d", what, n)
		}
	}
}

// checkGood looks at a reader that is to be not bad, with so many bytes left.
func checkGood(t *testing.T, what string, r *pen.Reader, left int) {
	t.Helper()
	if r.Bad() || r.Left() != left || r.Done() != (left == 0) {
		t.Errorf("%s: bad %v, done %v, left %d, want %d left", what, r.Bad(), r.Done(), r.Left(), left)
	}
}

// Pe1: bytes that are written out.
func TestPe1UintWritten(t *testing.T) {
	for _, x := range []struct {
		n    int
		want string
	}{
		{0, "\x00"}, {1, "\x01"}, {127, "\x7f"},
		{128, "\x80\x01"}, {129, "\x81\x01"}, {255, "\xff\x01"}, {256, "\x80\x02"}, {300, "\xac\x02"},
		{1<<14 - 1, "\xff\x7f"}, {1 << 14, "\x80\x80\x01"},
		{1<<62 - 1, "\xff\xff\xff\xff\xff\xff\xff\xff\x3f"},
		{maxInt, "\xff\xff\xff\xff\xff\xff\xff\xff\x7f"},
		{-1, ""}, {-127, ""}, {-128, ""}, {-maxInt, ""}, {math.MinInt, ""},
	} {
		if s := pen.Uint(x.n); s != x.want {
			t.Errorf("Uint(%d) = %x, want %x", x.n, s, x.want)
		}
	}
}

// Pe1: the row 0, -1, 1, -2, 2 has the places 0, 1, 2, 3, 4; at its end they are the greatest ones of 64 bits.
func TestPe1IntWritten(t *testing.T) {
	for _, x := range []struct {
		n    int
		want string
	}{
		{0, "\x00"}, {-1, "\x01"}, {1, "\x02"}, {-2, "\x03"}, {2, "\x04"},
		{63, "\x7e"}, {-64, "\x7f"}, {64, "\x80\x01"}, {-65, "\x81\x01"}, {150, "\xac\x02"},
		{maxInt, "\xfe\xff\xff\xff\xff\xff\xff\xff\xff\x01"},
		{math.MinInt, "\xff\xff\xff\xff\xff\xff\xff\xff\xff\x01"},
	} {
		if s := pen.Int(x.n); s != x.want {
			t.Errorf("Int(%d) = %x, want %x", x.n, s, x.want)
		}
	}
}

// Pe1: small numbers and edges, as another hand writes them.
func TestPe1Numbers(t *testing.T) {
	l := edges()
	for n := -20000; n <= 20000; n++ {
		l = append(l, n)
	}
	for _, n := range l {
		want := ""
		if n >= 0 {
			want = bytesOf(uint64(n))
		}
		if s := pen.Uint(n); s != want {
			t.Fatalf("Uint(%d) = %x, want %x", n, s, want)
		}
		if s, want := pen.Int(n), bytesOf(placeOf(n)); s != want {
			t.Fatalf("Int(%d) = %x, want %x", n, s, want)
		}
	}
}

// Pe1: a text has its own bytes, whatever they are, behind those of how many.
func TestPe1Text(t *testing.T) {
	for _, x := range []struct{ s, want string }{
		{"", "\x00"}, {"a", "\x01a"}, {"ab", "\x02ab"}, {"\x00", "\x01\x00"}, {"\xff\x80", "\x02\xff\x80"}, {"ä", "\x02\xc3\xa4"},
		{strings.Repeat("x", 127), "\x7f" + strings.Repeat("x", 127)},
		{strings.Repeat("x", 128), "\x80\x01" + strings.Repeat("x", 128)},
		{strings.Repeat("\x00", 1<<16), "\x80\x80\x04" + strings.Repeat("\x00", 1<<16)},
	} {
		if s := pen.Text(x.s); s != x.want {
			t.Errorf("Text of %d bytes = %.20x, want %.20x", len(x.s), s, x.want)
		}
	}
}

// Pe2: a new reader stands ahead of the first byte.
func TestPe2New(t *testing.T) {
	for _, s := range []string{"", "\x00", "\x80", "abc", strings.Repeat("\xff", 1000)} {
		checkGood(t, "new", pen.New(s), len(s))
	}
}

// Pe2: a number up to the bound is taken, and what stands behind it is left.
func TestPe2Uint(t *testing.T) {
	for _, n := range edges() {
		if n < 0 {
			continue
		}
		for _, behind := range []string{"", "\x00", "\xff", "\x80\x80"} {
			for _, most := range []int{n, n + min(1, maxInt-n), maxInt} {
				r := pen.New(pen.Uint(n) + behind)
				if got := r.Uint(most); got != n {
					t.Errorf("Uint(%d) of %d: %d", most, n, got)
				}
				checkGood(t, "behind a number", r, len(behind))
			}
			for _, most := range []int{n - 1, -1, math.MinInt} {
				r := pen.New(pen.Uint(n) + behind)
				if got := r.Uint(most); got != 0 {
					t.Errorf("Uint(%d) of %d: %d", most, n, got)
				}
				checkBad(t, "behind a number that is too great", r)
			}
		}
	}
}

// Pe2: a number above MaxInt is none that Uint, Text or Times may take, but one of Int.
func TestPe2BeyondInt(t *testing.T) {
	for _, n := range []uint64{1 << 63, 1<<63 + 1, math.MaxUint64 - 1, math.MaxUint64} {
		s := bytesOf(n) + "abc"
		for name, take := range takers() {
			r := pen.New(s)
			take(r, maxInt)
			if name != "Int" {
				checkBad(t, name, r)
				continue
			}
			checkGood(t, name, r, 3)
		}
	}
}

// takers are all calls that take something, by their names; each tells whether it answered 0, or a text without bytes.
func takers() map[string]func(r *pen.Reader, most int) bool {
	return map[string]func(r *pen.Reader, most int) bool{
		"Uint":  func(r *pen.Reader, most int) bool { return r.Uint(most) == 0 },
		"Int":   func(r *pen.Reader, most int) bool { return r.Int() == 0 },
		"Text":  func(r *pen.Reader, most int) bool { return r.Text(most) == "" },
		"Times": func(r *pen.Reader, most int) bool { return r.Times(most) == 0 },
	}
}

// Pe2: what is cut off, has a 0 on top, or goes beyond 64 bits, is no number's.
func TestPe2NoNumber(t *testing.T) {
	nine := strings.Repeat("\xff", 9)
	l := []string{
		"", "\x80", "\xff", "\x80\x80", "\x80\x00", "\x81\x00", "\xff\x00", "\x80\x80\x00", "\x80\x81\x00", "\x80\x00\x01",
		nine, nine + "\x00", nine + "\x02", nine + "\x03", nine + "\x7f", nine + "\x80", nine + "\x81", nine + "\x80\x00", nine + "\x80\x01",
		nine + "\x81\x00", nine + "\x81\x01", strings.Repeat("\x80", 9) + "\x02", strings.Repeat("\x80", 9) + "\x00",
		strings.Repeat("\x80", 10) + "\x01", strings.Repeat("\x80", 100), strings.Repeat("\x80", 100) + "\x01", strings.Repeat("\xff", 10),
	}
	for _, s := range l {
		for name, take := range takers() {
			r := pen.New(s)
			if !take(r, maxInt) {
				t.Errorf("%s of %x tells something", name, s)
			}
			checkBad(t, name, r)
		}
	}
	for n := range uint64(300) {
		for name, take := range takers() {
			s := bytesOf(n + 1)
			top := s[:len(s)-1] + string([]byte{s[len(s)-1] | 128}) + "\x00"
			r := pen.New(top)
			if !take(r, maxInt) {
				t.Errorf("%s of %x tells something", name, top)
			}
			checkBad(t, name, r)
		}
	}
}

// Pe2: each number's place is read again, up to the last one of 64 bits.
func TestPe2Int(t *testing.T) {
	for _, x := range []struct {
		s string
		n int
	}{
		{"\x00", 0}, {"\x01", -1}, {"\x02", 1}, {"\x03", -2}, {"\x04", 2}, {"\x7f", -64}, {"\x80\x01", 64}, {"\xac\x02", 150},
		{"\xff\xff\xff\xff\xff\xff\xff\xff\x7f", -1 << 62},
		{"\x80\x80\x80\x80\x80\x80\x80\x80\x80\x01", 1 << 62},
		{"\xfe\xff\xff\xff\xff\xff\xff\xff\xff\x01", maxInt},
		{"\xff\xff\xff\xff\xff\xff\xff\xff\xff\x01", math.MinInt},
	} {
		r := pen.New(x.s + "z")
		if n := r.Int(); n != x.n {
			t.Errorf("Int of %x: %d, want %d", x.s, n, x.n)
		}
		checkGood(t, "behind a place", r, 1)
	}
	for _, n := range edges() {
		r := pen.New(bytesOf(placeOf(n)))
		if got := r.Int(); got != n {
			t.Errorf("Int of %d: %d", n, got)
		}
		checkGood(t, "behind a place", r, 0)
	}
}

// Pe2: a text is taken whole, if it is no longer than is asked for, and all of it is there.
func TestPe2Text(t *testing.T) {
	for _, x := range []struct {
		s    string
		most int
		want string
		left int // below 0: bad
	}{
		{"\x02ab", 2, "ab", 0}, {"\x02ab", 3, "ab", 0}, {"\x02ab", maxInt, "ab", 0}, {"\x02abc", 2, "ab", 1},
		{"\x02\x00\xff\x80", 9, "\x00\xff", 1},
		{"\x00", 0, "", 0}, {"\x00", 5, "", 0}, {"\x00ab", 0, "", 2},
		{"\x02ab", 1, "", -1}, {"\x02ab", 0, "", -1}, {"\x02ab", -1, "", -1}, {"\x02ab", math.MinInt, "", -1},
		{"\x00", -1, "", -1}, {"\x00ab", math.MinInt, "", -1},
		{"\x03ab", 3, "", -1}, {"\x03ab", 2, "", -1}, {"\x01", 1, "", -1}, {"", 0, "", -1}, {"", maxInt, "", -1},
		{"\xff\xff\xff\xff\xff\xff\xff\xff\x7fab", maxInt, "", -1},
		{"\x82\x00ab", 2, "", -1},
	} {
		r := pen.New(x.s)
		if s := r.Text(x.most); s != x.want {
			t.Errorf("Text(%d) of %x: %q, want %q", x.most, x.s, s, x.want)
		}
		if x.left < 0 {
			checkBad(t, "behind no text", r)
			continue
		}
		checkGood(t, "behind a text", r, x.left)
	}
}

// Pe2: how often is told just if so many bytes are left behind it; none of them is taken.
func TestPe2Times(t *testing.T) {
	for _, x := range []struct {
		s    string
		most int
		want int
		left int // below 0: bad
	}{
		{"\x01x", 1, 1, 1}, {"\x01xy", 1, 1, 2}, {"\x02xy", 2, 2, 2}, {"\x02xy", maxInt, 2, 2},
		{"\x00", 0, 0, 0}, {"\x00", maxInt, 0, 0}, {"\x00xy", 0, 0, 2},
		{"\x01", 1, 0, -1}, {"\x02x", 2, 0, -1}, {"\x03xy", maxInt, 0, -1},
		{"\x02xy", 1, 0, -1}, {"\x01x", 0, 0, -1}, {"\x01x", -1, 0, -1}, {"\x00", -1, 0, -1}, {"\x00x", math.MinInt, 0, -1},
		{"", 0, 0, -1}, {"\xff\xff\xff\xff\xff\xff\xff\xff\x7fxy", maxInt, 0, -1}, {"\x81\x00x", 1, 0, -1},
		{"\x80\x01" + strings.Repeat("x", 128), 128, 128, 128},
		{"\x80\x01" + strings.Repeat("x", 127), 128, 0, -1},
		{"\x80\x01" + strings.Repeat("x", 128), 127, 0, -1},
	} {
		r := pen.New(x.s)
		if n := r.Times(x.most); n != x.want {
			t.Errorf("Times(%d) of %.9x: %d, want %d", x.most, x.s, n, x.want)
		}
		if x.left < 0 {
			checkBad(t, "behind no number", r)
			continue
		}
		checkGood(t, "behind how often", r, x.left)
	}
}

// Pe2: once a reader is bad, it stays so, though the next thing stands there.
func TestPe2BadStays(t *testing.T) {
	for name, take := range takers() {
		for _, s := range []string{"\x00\x00\x00\x00", "\x01a\x01a", "\x02\x02\x02\x02"} {
			r := pen.New(s)
			r.Uint(-1)
			if !take(r, maxInt) {
				t.Errorf("%s of a reader that is bad tells something", name)
			}
			checkBad(t, name, r)
		}
	}
}

// Pe2: to look at a reader changes nothing.
func TestPe2Looks(t *testing.T) {
	r := pen.New("\x05\x01x")
	for range 3 {
		checkGood(t, "ahead", r, 3)
	}
	if n := r.Uint(5); n != 5 {
		t.Errorf("Uint(5): %d", n)
	}
	for range 3 {
		checkGood(t, "behind", r, 2)
	}
}

// Pe2, R1: a reader that New did not give has nothing to tell, and does not panic.
func TestPe2NotNew(t *testing.T) {
	checkBad(t, "nil", nil)
	checkBad(t, "zero", &pen.Reader{})
	checkBad(t, "new", new(pen.Reader))
	for _, r := range []*pen.Reader{nil, {}} {
		for name, take := range takers() {
			if !take(r, maxInt) {
				t.Errorf("%s of a reader that New did not give tells something", name)
			}
		}
		checkBad(t, "asked", r)
	}
}

// Pe3: what was written is read again, one behind the other, and nothing is left.
func TestPe3OneBehindTheOther(t *testing.T) {
	texts := []string{"", "a", "\x00", "\xff\xff", "\x80", strings.Repeat("y", 200)}
	var b strings.Builder
	for i, n := range edges() {
		b.WriteString(pen.Int(n) + pen.Text(texts[i%len(texts)]) + pen.Uint(n) + pen.Uint(3))
	}
	s := b.String()
	r := pen.New(s + "abc")
	for i, n := range edges() {
		if got := r.Int(); got != n {
			t.Errorf("Int: %d, want %d", got, n)
		}
		if got, want := r.Text(200), texts[i%len(texts)]; got != want {
			t.Errorf("Text: %q, want %q", got, want)
		}
		if n >= 0 {
			if got := r.Uint(n); got != n {
				t.Errorf("Uint: %d, want %d", got, n)
			}
		}
		if got := r.Times(3); got != 3 {
			t.Errorf("Times: %d, want 3", got)
		}
	}
	checkGood(t, "at the end", r, 3)
}

// Pe3: of the bytes of a number, or of a text, no part that ends ahead of their end is one's.
func TestPe3Cut(t *testing.T) {
	for _, n := range edges() {
		number, text := pen.Int(n), pen.Text(pen.Int(n))
		for cut := range len(number) {
			r := pen.New(number[:cut])
			r.Int()
			checkBad(t, "behind a place that is cut", r)
			r = pen.New(number[:cut])
			r.Uint(maxInt)
			checkBad(t, "behind a number that is cut", r)
		}
		for cut := range len(text) {
			r := pen.New(text[:cut])
			r.Text(maxInt)
			checkBad(t, "behind a text that is cut", r)
		}
	}
}

// checkWritten reads bytes in each way: what is told of them is written as just the bytes that were taken.
func checkWritten(t *testing.T, s string) {
	t.Helper()
	for name, again := range map[string]func(r *pen.Reader) string{
		"Uint":  func(r *pen.Reader) string { return pen.Uint(r.Uint(maxInt)) },
		"Int":   func(r *pen.Reader) string { return pen.Int(r.Int()) },
		"Text":  func(r *pen.Reader) string { return pen.Text(r.Text(maxInt)) },
		"Times": func(r *pen.Reader) string { return pen.Uint(r.Times(maxInt)) },
	} {
		r := pen.New(s)
		got := again(r)
		if r.Bad() {
			if got != "\x00" {
				t.Errorf("%s of %x is bad, and tells %x", name, s, got)
			}
			continue
		}
		if taken := s[:len(s)-r.Left()]; got != taken {
			t.Errorf("%s of %x: %x was taken, which is written %x", name, s, taken, got)
		}
	}
}

// Pe3: no other bytes lead there: all texts of at most two bytes, and those with some third one.
func TestPe3NoOtherBytes(t *testing.T) {
	checkWritten(t, "")
	for a := range 256 {
		checkWritten(t, string([]byte{byte(a)}))
		for b := range 256 {
			checkWritten(t, string([]byte{byte(a), byte(b)}))
			for _, c := range []byte{0, 1, 127, 128, 255} {
				checkWritten(t, string([]byte{byte(a), byte(b), c}))
			}
		}
	}
}

// Pe3: no other bytes lead there: texts about which a number goes beyond 64 bits.
func TestPe3NoOtherLongBytes(t *testing.T) {
	for size := 7; size <= 11; size++ {
		for _, fill := range []string{"\x80", "\xff", "\x81", "\xaa"} {
			for last := range 256 {
				checkWritten(t, strings.Repeat(fill, size)+string([]byte{byte(last)}))
				checkWritten(t, strings.Repeat(fill, size)+string([]byte{byte(last), 1, 2}))
			}
		}
	}
}

// Pe3: unlike numbers and unlike texts have unlike bytes, of which none begins with another's.
func TestPe3Unlike(t *testing.T) {
	for name, write := range map[string]func(n int) string{
		"Uint": pen.Uint,
		"Int":  pen.Int,
		"Text": func(n int) string { return pen.Text(bytesOf(uint64(n))) },
	} {
		l := slices.DeleteFunc(edges(), func(n int) bool { return n < 0 })
		for _, a := range l {
			for _, b := range l {
				if a != b && strings.HasPrefix(write(a), write(b)) {
					t.Errorf("%s: the bytes of %d begin with those of %d", name, a, b)
				}
			}
		}
	}
}

// R1: every call ends and none panics, with each bound, at each bytes.
func TestR1AllBounds(t *testing.T) {
	texts := []string{"", "\x00", "\x01", "\x01a", "\x80", "\x80\x00", "\x80\x01", strings.Repeat("\xff", 9) + "\x01abc", strings.Repeat("\x80", 20)}
	for _, s := range texts {
		for _, most := range edges() {
			for name, take := range takers() {
				r := pen.New(s)
				zero := take(r, most)
				if r.Bad() && !zero {
					t.Errorf("%s(%d) of %x is bad, and tells something", name, most, s)
				}
				if left := r.Left(); left < 0 || left > len(s) {
					t.Errorf("%s(%d) of %x: %d left", name, most, s, left)
				}
			}
		}
	}
}

// R4: readers of the same bytes do not know of one another.
func TestR4Apart(t *testing.T) {
	s := "\x05\x06\x07"
	a, b := pen.New(s), pen.New(s)
	if a.Uint(9) != 5 || a.Uint(9) != 6 || b.Uint(9) != 5 {
		t.Error("readers take from one another")
	}
	b.Uint(0)
	checkBad(t, "one", b)
	checkGood(t, "the other", a, 1)
	if a.Uint(9) != 7 {
		t.Error("a reader was spoilt by another one")
	}
}
