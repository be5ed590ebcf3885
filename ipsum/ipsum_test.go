package ipsum

import (
	"bytes"
	"math"
	"testing"

	"syndic/probe"
)

// slowSum works the sum out as the chapter tells it: number by number, what goes beyond 16 bits added again at each of them.
func slowSum(b []byte) int {
	sum := 0
	for i := 0; i < len(b); i += 2 {
		number := int(b[i]) * 256
		if i+1 < len(b) {
			number += int(b[i+1])
		}
		sum += number
		if sum > 65535 {
			sum = sum - 65536 + 1
		}
	}
	return 65535 - sum
}

// filled answers b with its sum at a place, and ends the test if there is none.
func filled(t *testing.T, b []byte, at int) []byte {
	t.Helper()
	out, is := Fill(b, at)
	if !is {
		t.Fatalf("Fill(%x, %d) refused", b, at)
	}
	return out
}

// P2.1: Of one piece: none, an odd byte, and sums that go beyond 16 bits once and more often.
func TestOf(t *testing.T) {
	for _, c := range []struct {
		b    string
		want int
	}{
		{"", 0xffff},
		{"\x00", 0xffff},
		{"\x00\x00", 0xffff},
		{"\x01", 0xfeff},
		{"\xff", 0x00ff},
		{"\x00\x01", 0xfffe},
		{"\x12\x34", 0xedcb},
		{"\x12\x34\x56", 0x97cb},
		{"\x00\x01\xf2\x03\xf4\xf5\xf6\xf7", 0x220d},
		{"\xff\xff", 0},
		{"\xff\xfe\x00\x01", 0},
		// Beyond 16 bits once: 1ffff, 10000, 1fffe.
		{"\xff\xff\x00\x01", 0xfffe},
		{"\x80\x00\x80\x00", 0xfffe},
		{"\xff\xff\xff\xff", 0},
		{"\x80\x00\x80\x00\x01", 0xfefe},
		// Beyond them again when the rest is added: 1ffff, 2fffe, 2ffff.
		{"\xff\xff\xff\xff\x00\x01", 0xfffe},
		{"\xff\xff\xff\xff\xff\xff\x00\x01", 0xfffe},
		{"\xff\xff\xff\xff\xff\xff\x00\x02", 0xfffd},
		{"\xff\xff\xff\xff\xff", 0x00ff},
	} {
		if got := Of([]byte(c.b)); got != c.want {
			t.Errorf("Of(%x) = %04x, want %04x", c.b, got, c.want)
		}
	}
}

// P2.1: of nothing at all, however it is handed over.
func TestOfNothing(t *testing.T) {
	for i, got := range []int{Of(), Of(nil), Of([]byte{}), Of(nil, nil, []byte{}), Of([][]byte{}...)} {
		if got != 0xffff {
			t.Errorf("%d: %04x", i, got)
		}
	}
}

// P2.1: Of holds against the chapter's words number by number, at all short lengths and at sums beyond 32 bits.
func TestOfAsTold(t *testing.T) {
	for n := range 300 {
		if b := probe.Mixed(n, n); Of(b) != slowSum(b) {
			t.Errorf("%d bytes: %04x, want %04x", n, Of(b), slowSum(b))
		}
	}
	for _, n := range []int{65536, 131071, 131072, 131074, 400001} {
		for _, x := range []byte{0xff, 0x80, 0x01} {
			if b := bytes.Repeat([]byte{x}, n); Of(b) != slowSum(b) {
				t.Errorf("%d times %02x: %04x, want %04x", n, x, Of(b), slowSum(b))
			}
		}
	}
}

// P2.1: wherever bytes are cut, odd pieces and empty ones too, they have the sum of the whole.
func TestOfPieces(t *testing.T) {
	b := probe.Mixed(23, 5)
	want := slowSum(b)
	for i := range len(b) + 1 {
		for j := i; j <= len(b); j++ {
			if got := Of(b[:i], b[i:j], b[j:]); got != want {
				t.Errorf("cut at %d and %d: %04x, want %04x", i, j, got, want)
			}
			if got := Of(nil, b[:i], nil, []byte{}, b[i:j], b[j:], nil); got != want {
				t.Errorf("cut at %d and %d with empty pieces: %04x, want %04x", i, j, got, want)
			}
		}
	}
	var single [][]byte
	for i := range b {
		single = append(single, b[i:i+1])
	}
	if got := Of(single...); got != want {
		t.Errorf("byte by byte: %04x, want %04x", got, want)
	}
	// A piece's odd byte isn't filled with a 0 where another piece follows.
	if got := Of([]byte{1}, []byte{2}); got != 0xfefd {
		t.Errorf("two single bytes: %04x", got)
	}
	if got := Of([]byte{1}, []byte{2, 3}, []byte{4}, []byte{5}); got != slowSum([]byte{1, 2, 3, 4, 5}) {
		t.Errorf("odd pieces, and a byte left over: %04x", got)
	}
}

// P2.1: Good wants two bytes or more, an even number of them, and the sum 0.
func TestGood(t *testing.T) {
	for _, c := range []struct {
		b    string
		want bool
	}{
		{"", false},
		{"\x00", false},
		{"\xff", false},
		{"\xff\xff", true},
		{"\x00\x00", false},
		{"\x00\x00\x00\x00", false},
		{"\xff\xfe", false},
		{"\xff\xfe\x00\x01", true},
		{"\xff\xff\xff\xff", true},
		{"\x00\x00\xff\xff", true},
		{"\x80\x00\x7f\xff", true},
		{"\x01\x02\xf9\xf7\x05\x06", true},
		{"\x01\x02\xf9\xf8\x05\x06", false},
		// The sum is 0 with a 0 behind, but the number of bytes is odd.
		{"\xff\xff\x00", false},
		{"\x00\xff\xff", false},
		{"\xfe\xff\x01", false},
	} {
		if Good([]byte(c.b)) != c.want {
			t.Errorf("Good(%x) = %v", c.b, !c.want)
		}
	}
	if Good(nil) {
		t.Error("nil is good")
	}
}

// P2.2: Fill puts the sum of the rest there, whatever stood there, and what it answers is good.
func TestFill(t *testing.T) {
	for _, c := range []struct {
		b    string
		at   int
		want string
	}{
		{"\x01\x02\x09\x09\x05\x06", 2, "\x01\x02\xf9\xf7\x05\x06"},
		{"\x01\x02\x00\x00\x05\x06", 2, "\x01\x02\xf9\xf7\x05\x06"},
		{"\x09\x09\x01\x02", 0, "\xfe\xfd\x01\x02"},
		{"\x01\x02\x09\x09", 2, "\x01\x02\xfe\xfd"},
		// The rest is 0: the sum is ffff. The rest adds up to ffff: it is 0.
		{"\x07\x07", 0, "\xff\xff"},
		{"\x00\x00\x07\x07", 2, "\x00\x00\xff\xff"},
		{"\xff\xff\x07\x07", 2, "\xff\xff\x00\x00"},
		{"\x80\x00\x07\x07\x7f\xff", 2, "\x80\x00\x00\x00\x7f\xff"},
		{"\xff\xff\xff\xff\x00\x01\x07\x07", 6, "\xff\xff\xff\xff\x00\x01\xff\xfe"},
	} {
		if got := filled(t, []byte(c.b), c.at); string(got) != c.want {
			t.Errorf("Fill(%x, %d) = %x, want %x", c.b, c.at, got, c.want)
		}
	}
	for n := 2; n <= 64; n += 2 {
		for at := 0; at < n; at += 2 {
			b := probe.Mixed(n, n+at)
			got := filled(t, b, at)
			if !Good(got) {
				t.Errorf("Fill(%x, %d) = %x isn't good", b, at, got)
			}
			b[at], b[at+1] = 0, 0
			if sum := slowSum(b); int(got[at])*256+int(got[at+1]) != sum {
				t.Errorf("Fill(%x, %d) = %x, sum %04x", b, at, got, sum)
			}
			got[at], got[at+1] = 0, 0
			if !bytes.Equal(got, b) {
				t.Errorf("Fill at %d changed other bytes: %x, want %x", at, got, b)
			}
		}
	}
}

// P2.2: what Fill refuses: places that are odd, below 0 or beyond, and an odd number of bytes.
func TestFillRefuses(t *testing.T) {
	for _, c := range []struct {
		b  string
		at int
	}{
		{"", 0}, {"", -2}, {"", 2},
		{"\x01", 0}, {"\x01", -2},
		{"\x01\x02", 1}, {"\x01\x02", -1}, {"\x01\x02", -2}, {"\x01\x02", 2}, {"\x01\x02", 4},
		{"\x01\x02\x03\x04", 1}, {"\x01\x02\x03\x04", 3}, {"\x01\x02\x03\x04", 4}, {"\x01\x02\x03\x04", 5}, {"\x01\x02\x03\x04", 6},
		{"\x01\x02\x03\x04", -1}, {"\x01\x02\x03\x04", -2}, {"\x01\x02\x03\x04", -4},
		{"\x01\x02\x03", 0}, {"\x01\x02\x03", 1}, {"\x01\x02\x03", 2}, {"\x01\x02\x03\x04\x05", 2},
		{"\x01\x02", math.MaxInt64}, {"\x01\x02", math.MaxInt64 - 1}, {"\x01\x02", math.MaxInt64 - 3},
		{"\x01\x02", math.MinInt64}, {"\x01\x02", math.MinInt64 + 1},
	} {
		if got, is := Fill([]byte(c.b), c.at); is || len(got) != 0 {
			t.Errorf("Fill(%x, %d) = %x, %v", c.b, c.at, got, is)
		}
	}
	if got, is := Fill(nil, 0); is || len(got) != 0 {
		t.Errorf("Fill(nil, 0) = %x, %v", got, is)
	}
	// Spare room doesn't count as bytes that are there.
	b, _ := probe.Roomy([]byte{1, 2}, 6, 0xEE)
	if got, is := Fill(b, 2); is || len(got) != 0 {
		t.Errorf("Fill in spare room = %x, %v", got, is)
	}
}

// P2.3: good bytes of which one is changed, wherever and to whatever, aren't good.
func TestOneByteChanged(t *testing.T) {
	for _, b := range [][]byte{
		filled(t, make([]byte, 2), 0),
		filled(t, make([]byte, 8), 4),
		filled(t, bytes.Repeat([]byte{0xff}, 8), 2),
		filled(t, probe.Mixed(24, 1), 12),
		filled(t, probe.Mixed(66, 2), 64),
	} {
		if !Good(b) {
			t.Fatalf("%x isn't good", b)
		}
		for i, was := range b {
			for step := 1; step < 256; step++ {
				b[i] = was + byte(step)
				if Good(b) {
					t.Errorf("%x is good, with byte %d changed from %02x", b, i, was)
				}
			}
			b[i] = was
		}
	}
}

// R4: the pieces, their list and all spare room stay as they were.
func TestSumsKeepTheirHandsOff(t *testing.T) {
	b, whole := probe.Roomy([]byte{1, 2, 3, 4}, 8, 0xEE)
	was := string(whole)
	odd, wholeOdd := probe.Roomy([]byte{5, 6, 7}, 5, 0xEE)
	wasOdd := string(wholeOdd)
	list, wholeList := probe.Roomy([][]byte{odd, b}, 2, b)
	if got := Of(list...); got != slowSum([]byte{5, 6, 7, 1, 2, 3, 4}) {
		t.Errorf("%04x", got)
	}
	Good(b)
	Good(odd)
	if string(whole) != was || string(wholeOdd) != wasOdd {
		t.Errorf("pieces changed: %x %x", whole, wholeOdd)
	}
	for i, want := range [][]byte{odd, b, b, b} {
		if !bytes.Equal(wholeList[i], want) {
			t.Errorf("piece %d of the list changed", i)
		}
	}
}

// R4: Fill leaves b and its spare room as they were, and answers memory of its own.
func TestFillKeepsItsHandsOff(t *testing.T) {
	b, whole := probe.Roomy([]byte{1, 2, 9, 9, 5, 6}, 10, 0xEE)
	was := string(whole)
	first, second := filled(t, b, 2), filled(t, b, 2)
	Fill(b, 3)
	if string(whole) != was {
		t.Errorf("Fill changed its argument: %x", whole)
	}
	probe.Scribble(first, 0x5A)
	if string(whole) != was {
		t.Errorf("an answer shares its argument's memory: %x", whole)
	}
	probe.Scribble(whole, 0xA5)
	if string(second) != "\x01\x02\xf9\xf7\x05\x06" {
		t.Errorf("an answer shares memory: %x", second)
	}
}

// R5: the same is answered again, whatever was asked in between.
func TestSameAgain(t *testing.T) {
	b := probe.Mixed(17, 9)
	first := Of(b)
	Of(b[:3], nil)
	Good(b)
	Fill(b[:16], 4)
	if got := Of(b); got != first {
		t.Errorf("%04x, then %04x", first, got)
	}
}
