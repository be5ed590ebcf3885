package quad

import (
	"math"
	"testing"

	"syndic/api"
	"syndic/probe"
)

// roomy answers the bytes of text with spare room behind them, and the whole of that memory.
func roomy(text string, spare int) (b, whole []byte) {
	return probe.Roomy([]byte(text), spare, 0xEE)
}

// scribble overwrites a slice and its spare room.
func scribble(b []byte) {
	probe.Scribble(b, 0x5A)
}

// expect holds a reader's three readings against what they are to be.
func expect(t *testing.T, r *Reader, left, at int, err api.Errno) {
	t.Helper()
	if r.Left() != left || r.At() != at || r.Err() != err {
		t.Errorf("left %d at %d err %d, want %d %d %d", r.Left(), r.At(), int(r.Err()), left, at, int(err))
	}
}

// P1.1: Put, ordinary numbers, its edges, and widths out of bounds.
func TestPut(t *testing.T) {
	for _, c := range []struct {
		b       string
		w       int
		numbers []int
		want    string
	}{
		{"", 2, []int{258}, "\x01\x02"},
		{"", 1, []int{0, 1, 255}, "\x00\x01\xff"},
		{"", 2, []int{0, 65535, 256}, "\x00\x00\xff\xff\x01\x00"},
		{"", 3, []int{0x010203, 0xffffff}, "\x01\x02\x03\xff\xff\xff"},
		{"", 4, []int{0x01020304, 0xffffffff}, "\x01\x02\x03\x04\xff\xff\xff\xff"},
		{"ab", 1, []int{'c'}, "abc"},
		{"ab", 4, nil, "ab"},
		{"", 4, nil, ""},
		// Beyond w bytes: the lowest ones.
		{"", 1, []int{256, 258, 0x1234}, "\x00\x02\x34"},
		{"", 2, []int{65537, 0x123456}, "\x00\x01\x34\x56"},
		{"", 3, []int{0x01020304}, "\x02\x03\x04"},
		{"", 4, []int{1 << 32, 0x0102030405060708, math.MaxInt64}, "\x00\x00\x00\x00\x05\x06\x07\x08\xff\xff\xff\xff"},
		// Below 0: as in 64 bits that go round.
		{"", 1, []int{-1, -2, -256}, "\xff\xfe\x00"},
		{"", 2, []int{-1, -258}, "\xff\xff\xfe\xfe"},
		{"", 3, []int{-1}, "\xff\xff\xff"},
		{"", 4, []int{-1, -2147483647, math.MinInt64}, "\xff\xff\xff\xff\x80\x00\x00\x01\x00\x00\x00\x00"},
		// w is held within 1 to 4.
		{"", 0, []int{0x0102}, "\x02"},
		{"", -1, []int{0x0102}, "\x02"},
		{"", math.MinInt64, []int{0x0102, -1}, "\x02\xff"},
		{"", 5, []int{0x0102030405}, "\x02\x03\x04\x05"},
		{"", 8, []int{-1}, "\xff\xff\xff\xff"},
		{"x", math.MaxInt64, []int{7}, "x\x00\x00\x00\x07"},
	} {
		if got := Put([]byte(c.b), c.w, c.numbers...); string(got) != c.want {
			t.Errorf("Put(%q, %d, %v) = %x, want %x", c.b, c.w, c.numbers, got, c.want)
		}
	}
	if got := Put(nil, 1, 9); string(got) != "\x09" {
		t.Errorf("Put on nil: %x", got)
	}
	if got := Put(nil, 3); len(got) != 0 {
		t.Errorf("Put of nothing on nil: %x", got)
	}
}

// P1.1: Fits, at the edges of each width.
func TestFits(t *testing.T) {
	for w, most := range map[int]int{1: 255, 2: 65535, 3: 1<<24 - 1, 4: 1<<32 - 1} {
		for n, want := range map[int]bool{
			0: true, 1: true, most - 1: true, most: true,
			most + 1: false, -1: false, -most: false, -most - 1: false,
			math.MaxInt64: false, math.MinInt64: false,
		} {
			if Fits(w, n) != want {
				t.Errorf("Fits(%d, %d) = %v", w, n, !want)
			}
		}
	}
	for _, c := range []struct {
		w       int
		numbers []int
		want    bool
	}{
		{2, nil, true},
		{2, []int{0, 65535, 7}, true},
		{2, []int{65536, 0, 1}, false},
		{2, []int{0, 65536, 1}, false},
		{2, []int{0, 1, 65536}, false},
		{4, []int{1, -1}, false},
		{4, []int{1 << 40}, false},
		// w is held within 1 to 4.
		{0, []int{255}, true},
		{0, []int{256}, false},
		{-7, []int{255}, true},
		{-7, []int{256}, false},
		{math.MinInt64, []int{255}, true},
		{math.MinInt64, []int{256}, false},
		{5, []int{1<<32 - 1}, true},
		{5, []int{1 << 32}, false},
		{8, []int{-1}, false},
		{math.MaxInt64, []int{1<<32 - 1}, true},
		{math.MaxInt64, []int{1 << 32}, false},
		{0, nil, true},
		{9, nil, true},
	} {
		if Fits(c.w, c.numbers...) != c.want {
			t.Errorf("Fits(%d, %v) = %v", c.w, c.numbers, !c.want)
		}
	}
}

// P1.1 and P1.2: what fits is read as it was put, and what doesn't fit isn't.
func TestPutAndReadBack(t *testing.T) {
	numbers := []int{0, 1, 255, 256, 65535, 65536, 1<<24 - 1, 1 << 24, 1<<32 - 1, 1 << 32, -1, math.MaxInt64, math.MinInt64}
	for w := 1; w <= 4; w++ {
		r := Read(Put(nil, w, numbers...))
		for i, n := range numbers {
			if got := r.Num(w); (got == n) != Fits(w, n) {
				t.Errorf("%d in %d bytes came back as %d", n, w, got)
			}
			expect(t, r, w*(len(numbers)-1-i), w*(i+1), api.OK)
		}
	}
}

// P1.2: Num and Bytes take what is next, up to the last byte.
func TestRead(t *testing.T) {
	r := Read([]byte("\x01\x02\x03\x04\x05\x06\x07\x08\x09\x0abcd"))
	expect(t, r, 13, 0, api.OK)
	for i, want := range []int{0x01, 0x0203, 0x040506, 0x0708090a} {
		if got := r.Num(i + 1); got != want {
			t.Errorf("Num(%d) = %x, want %x", i+1, got, want)
		}
	}
	expect(t, r, 3, 10, api.OK)
	if got := r.Bytes(2); string(got) != "bc" {
		t.Errorf("Bytes(2) = %q", got)
	}
	expect(t, r, 1, 12, api.OK)
	if got := r.Bytes(1); string(got) != "d" {
		t.Errorf("Bytes(1) = %q", got)
	}
	expect(t, r, 0, 13, api.OK)
	if got := Read([]byte{255, 255, 255, 255}).Num(4); got != 1<<32-1 {
		t.Errorf("the greatest number: %d", got)
	}
}

// P1.2: Num holds its width within 1 to 4.
func TestNumHoldsWidth(t *testing.T) {
	for _, c := range []struct{ w, want, at int }{
		{0, 0x01, 1},
		{-1, 0x01, 1},
		{math.MinInt64, 0x01, 1},
		{5, 0x01020304, 4},
		{math.MaxInt64, 0x01020304, 4},
	} {
		r := Read([]byte{1, 2, 3, 4, 5, 6})
		if got := r.Num(c.w); got != c.want {
			t.Errorf("Num(%d) = %x, want %x", c.w, got, c.want)
		}
		expect(t, r, 6-c.at, c.at, api.OK)
	}
	r := Read([]byte{1, 2, 3})
	if got := r.Num(9); got != 0 {
		t.Errorf("Num(9) of three bytes = %d", got)
	}
	expect(t, r, 3, 0, api.ErrEnd)
}

// P1.2: Bytes of none, or of a number below 0, takes nothing and is no error, not even at the end.
func TestBytesOfNone(t *testing.T) {
	for _, n := range []int{0, -1, math.MinInt64} {
		r := Read([]byte{1})
		if got := r.Bytes(n); len(got) != 0 {
			t.Errorf("Bytes(%d) = %x", n, got)
		}
		expect(t, r, 1, 0, api.OK)
		r.Num(1)
		if got := r.Bytes(n); len(got) != 0 {
			t.Errorf("Bytes(%d) at the end = %x", n, got)
		}
		expect(t, r, 0, 1, api.OK)
	}
}

// P1.2: where too few bytes are left nothing is taken, and from then on nothing is taken any more.
func TestMissing(t *testing.T) {
	asks := map[string]func(*Reader) bool{
		"Num(3)":       func(r *Reader) bool { return r.Num(3) == 0 },
		"Num(4)":       func(r *Reader) bool { return r.Num(4) == 0 },
		"Bytes(3)":     func(r *Reader) bool { return len(r.Bytes(3)) == 0 },
		"Bytes(1<<31)": func(r *Reader) bool { return len(r.Bytes(1<<31)) == 0 },
		"Bytes(most)":  func(r *Reader) bool { return len(r.Bytes(math.MaxInt64)) == 0 },
	}
	for name, ask := range asks {
		r := Read([]byte{9, 8, 7})
		if r.Num(1) != 9 {
			t.Fatal("the first byte")
		}
		if !ask(r) {
			t.Errorf("%s answered something", name)
		}
		expect(t, r, 2, 1, api.ErrEnd)
		for range 2 {
			if r.Num(1) != 0 || r.Num(2) != 0 || r.Num(-1) != 0 || len(r.Bytes(1)) != 0 || len(r.Bytes(2)) != 0 {
				t.Errorf("behind %s something was answered", name)
			}
			if len(r.Bytes(0)) != 0 || len(r.Bytes(-1)) != 0 || !ask(r) {
				t.Errorf("behind %s something was answered", name)
			}
			expect(t, r, 2, 1, api.ErrEnd)
		}
	}
}

// P1.2: a reader of nothing.
func TestReadNothing(t *testing.T) {
	for _, b := range [][]byte{nil, {}} {
		r := Read(b)
		if r == nil {
			t.Fatal("no reader")
		}
		expect(t, r, 0, 0, api.OK)
		if len(r.Bytes(0)) != 0 {
			t.Error("bytes of nothing")
		}
		expect(t, r, 0, 0, api.OK)
		if r.Num(1) != 0 {
			t.Error("a number of nothing")
		}
		expect(t, r, 0, 0, api.ErrEnd)
	}
}

// P1.2: the spare room of what is read isn't read.
func TestReadStopsAtLength(t *testing.T) {
	b, _ := roomy("\x01", 7)
	r := Read(b)
	expect(t, r, 1, 0, api.OK)
	if r.Num(2) != 0 {
		t.Error("a number from spare room")
	}
	expect(t, r, 1, 0, api.ErrEnd)
}

// P1.2, R1: a nil Reader answers 0, nothing, ErrNil, at all arguments.
func TestNilReader(t *testing.T) {
	var r *Reader
	for _, n := range []int{math.MinInt64, -1, 0, 1, 2, 4, 5, math.MaxInt64} {
		if r.Num(n) != 0 || len(r.Bytes(n)) != 0 {
			t.Errorf("a nil Reader answered something at %d", n)
		}
		expect(t, r, 0, 0, api.ErrNil)
	}
}

// R4: Put leaves b, its spare room and the numbers as they were, and answers memory of its own.
func TestPutKeepsItsHandsOff(t *testing.T) {
	b, whole := roomy("ab", 16)
	was := string(whole)
	numbers := []int{1, -2, 70000, 5}
	first := Put(b, 2, numbers[:2]...)
	second := Put(b, 2, numbers[:2]...)
	none := Put(b, 2)
	if string(whole) != was {
		t.Errorf("Put changed its argument: %x", whole)
	}
	scribble(first)
	scribble(none)
	if string(whole) != was {
		t.Errorf("an answer shares its argument's memory: %x", whole)
	}
	if string(second) != "ab\x00\x01\xff\xfe" {
		t.Errorf("two answers share memory: %x", second)
	}
	scribble(whole)
	if string(second) != "ab\x00\x01\xff\xfe" {
		t.Errorf("an argument shares its answer's memory: %x", second)
	}
	Fits(1, numbers...)
	for i, n := range []int{1, -2, 70000, 5} {
		if numbers[i] != n {
			t.Errorf("number %d became %d", n, numbers[i])
		}
	}
}

// R4: a reader neither changes nor keeps what it was made of.
func TestReadKeepsItsHandsOff(t *testing.T) {
	b, whole := roomy("\x01\x02\x03\x04", 8)
	was := string(whole)
	r, other := Read(b), Read(b)
	r.Num(2)
	scribble(r.Bytes(1))
	r.Num(4)
	if string(whole) != was {
		t.Errorf("reading changed its argument: %x", whole)
	}
	scribble(whole)
	if got := other.Num(4); got != 0x01020304 {
		t.Errorf("the reader kept its argument: %x", got)
	}
}

// R4: what Bytes answers shares nothing with the reader, nor with an earlier answer.
func TestBytesIsNewMemory(t *testing.T) {
	r := Read([]byte("abcdefgh"))
	first := r.Bytes(2)
	none := r.Bytes(0)
	second := r.Bytes(2)
	scribble(first)
	scribble(none)
	if string(second) != "cd" {
		t.Errorf("an earlier answer shares memory: %q", second)
	}
	scribble(second)
	_ = append(second, "zzzz"...)
	if got := r.Bytes(4); string(got) != "efgh" {
		t.Errorf("an answer shares the reader's memory: %q", got)
	}
}

// R5: two readers of the same bytes go their own ways, and answer the same when asked the same.
func TestReadersAreApart(t *testing.T) {
	b := []byte{1, 2, 3}
	one, two := Read(b), Read(b)
	one.Num(4)
	expect(t, one, 3, 0, api.ErrEnd)
	expect(t, two, 3, 0, api.OK)
	if two.Num(3) != 0x010203 {
		t.Error("the second reader")
	}
	expect(t, two, 0, 3, api.OK)
}
