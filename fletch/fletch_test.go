package fletch

import (
	"bytes"
	"math"
	"testing"

	"syndic/probe"
)

// slowSums works both sums out as the chapter tells them: each byte, and each byte times how many stand from it on.
func slowSums(b []byte) (first, second int) {
	for i, x := range b {
		first += int(x)
		second += (len(b) - i) * int(x) % 255
	}
	return first % 255, second % 255
}

// slowWhole is Whole by slowSums, of one byte or more.
func slowWhole(b []byte) bool {
	first, second := slowSums(b)
	return first == 0 && second == 0
}

// filled answers b with the two bytes from at on filled, and ends the test if that is refused.
func filled(t *testing.T, b []byte, at int) []byte {
	t.Helper()
	out, is := Fill(b, at)
	if !is {
		t.Fatalf("Fill(%x, %d) refused", b, at)
	}
	return out
}

// P3.1: Sums of none, of single bytes, and of bytes whose sums reach 255 and go beyond.
func TestSums(t *testing.T) {
	for _, c := range []struct {
		b             string
		first, second int
	}{
		{"", 0, 0},
		{"\x00", 0, 0},
		{"\x01", 1, 1},
		{"\xfe", 254, 254},
		{"\xff", 0, 0},
		{"\x01\x02", 3, 4},
		{"\x02\x01", 3, 5},
		// A 0 ahead of the others changes nothing, one behind them counts.
		{"\x00\x01\x02", 3, 4},
		{"\x01\x02\x00", 3, 7},
		{"\x01\x02\x00\x00", 3, 10},
		// The first sum is just 255, then the second one, then both.
		{"\x80\x7f", 0, 128},
		{"\x7f\x80", 0, 127},
		{"\x01\xfd", 254, 0},
		{"\x01\xfd\x01", 0, 0},
		// Beyond 255: 508 and 762, 256 and 511, 762 and 1524, 513 and 1278, 765 and 1530, 257 and 514.
		{"\xfe\xfe", 253, 252},
		{"\xff\x01", 1, 1},
		{"\xfe\xfe\xfe", 252, 249},
		{"\xff\xff\x03", 3, 3},
		{"\xff\xff\xff", 0, 0},
		{"\x01\xff\x01", 2, 4},
	} {
		if first, second := Sums([]byte(c.b)); first != c.first || second != c.second {
			t.Errorf("Sums(%x) = %d, %d, want %d, %d", c.b, first, second, c.first, c.second)
		}
	}
	if first, second := Sums(nil); first != 0 || second != 0 {
		t.Errorf("Sums(nil) = %d, %d", first, second)
	}
}

// P3.1: Sums holds against the chapter's words at all short lengths, and where the sums go beyond 255 a great many times.
func TestSumsAsTold(t *testing.T) {
	var all [][]byte
	for n := range 600 {
		all = append(all, probe.Mixed(n, n))
	}
	for _, n := range []int{254, 255, 256, 509, 510, 511, 65535, 65536, 1000003} {
		for _, x := range []byte{0xff, 0xfe, 0x80, 0x01} {
			all = append(all, bytes.Repeat([]byte{x}, n))
		}
	}
	for _, b := range all {
		first, second := Sums(b)
		if f, s := slowSums(b); first != f || second != s {
			t.Errorf("%d bytes, the last %x: %d, %d, want %d, %d", len(b), b[max(len(b)-1, 0):], first, second, f, s)
		}
	}
}

// P3.1: the sums stay exact where they would have outgrown the whole numbers of a float64 many times over.
func TestSumsOfVeryMany(t *testing.T) {
	// Of n bytes of 254 the sums are -n and -n*(n+1)/2; without what is left over the second one would be above 2^55.
	const n = 20000003
	first, second := Sums(bytes.Repeat([]byte{0xfe}, n))
	if want := 254 - (n-1)%255; first != want {
		t.Errorf("first %d, want %d", first, want)
	}
	if want := 254 - (n*(n+1)/2-1)%255; second != want {
		t.Errorf("second %d, want %d", second, want)
	}
}

// P3.1: Whole wants a byte at least, and both sums to be 0.
func TestWhole(t *testing.T) {
	for _, c := range []struct {
		b    string
		want bool
	}{
		{"", false},
		{"\x00", true},
		{"\xff", true},
		{"\x01", false},
		{"\xfe", false},
		{"\x00\x00", true},
		{"\xff\x00\xff", true},
		{"\xff\xff\xff\xff", true},
		// Only the first sum is 0, then only the second one.
		{"\x80\x7f", false},
		{"\xfe\x01", false},
		{"\x01\xfd", false},
		{"\x02\xfb", false},
		// Both are.
		{"\x01\xfd\x01", true},
		{"\x02\xfb\x02", true},
		{"\x01\x00\xfc\x02", true},
		{"\x01\x00\xfc\x03", false},
		// The same bytes, but not in this order.
		{"\x01\x01\xfd", false},
		{"\xfd\x01\x01", false},
	} {
		if Whole([]byte(c.b)) != c.want {
			t.Errorf("Whole(%x) = %v", c.b, !c.want)
		}
	}
	if Whole(nil) {
		t.Error("nil is whole")
	}
	for x := range 256 {
		for y := range 256 {
			if b := []byte{byte(x), byte(y)}; Whole(b) != slowWhole(b) {
				t.Errorf("Whole(%x) = %v", b, !slowWhole(b))
			}
		}
	}
}

// P3.1: Fill sets the two bytes that there are for it, whatever stood there, at the beginning, in the middle and at the last place.
func TestFill(t *testing.T) {
	for _, c := range []struct {
		b    string
		at   int
		want string
	}{
		{"\x07\x07", 0, "\x00\x00"},
		{"\xff\xff", 0, "\x00\x00"},
		{"\x01\x00\x00\x02", 1, "\x01\x00\xfc\x02"},
		{"\x01\x09\x09\x02", 1, "\x01\x00\xfc\x02"},
		{"\x01\xff\xff\x02", 1, "\x01\x00\xfc\x02"},
		{"\x09\x09\x01", 0, "\x01\xfd\x01"},
		{"\x01\x09\x09", 1, "\x01\xfd\x01"},
		{"\x05\x09\x09", 1, "\x05\xf5\x05"},
		// 0 and 254, the least and the greatest that are filled.
		{"\x00\x09\x09", 1, "\x00\x00\x00"},
		{"\xfe\x09\x09", 1, "\xfe\x02\xfe"},
		{"\x80\x09\x09", 1, "\x80\xfe\x80"},
		{"\x01\x09\x09\x00", 1, "\x01\xfd\x01\x00"},
		// Bytes of 255 beside the two stay such, and count as 0.
		{"\xff\x09\x09", 1, "\xff\x00\x00"},
		{"\x09\x09\xff\xff", 0, "\x00\x00\xff\xff"},
		{"\xff\x01\x09\x09\xff\x02", 2, "\xff\x01\x02\xfa\xff\x02"},
	} {
		got := filled(t, []byte(c.b), c.at)
		if string(got) != c.want {
			t.Errorf("Fill(%x, %d) = %x, want %x", c.b, c.at, got, c.want)
		}
		if !slowWhole([]byte(c.want)) {
			t.Errorf("%x isn't whole", c.want)
		}
	}
}

// checkFill holds Fill against the chapter's words: whole, both bytes below 255, and the others as they were.
func checkFill(t *testing.T, b []byte, at int) {
	t.Helper()
	got := filled(t, b, at)
	if len(got) != len(b) {
		t.Fatalf("Fill of %d bytes at %d answers %d", len(b), at, len(got))
	}
	if !slowWhole(got) || !Whole(got) {
		t.Errorf("Fill of %d bytes at %d isn't whole", len(b), at)
	}
	if got[at] == 255 || got[at+1] == 255 {
		t.Errorf("Fill of %d bytes at %d sets %x", len(b), at, got[at:at+2])
	}
	if !bytes.Equal(got[:at], b[:at]) || !bytes.Equal(got[at+2:], b[at+2:]) {
		t.Errorf("Fill of %d bytes at %d changed others", len(b), at)
	}
}

// P3.1: Fill at each place of bytes of many lengths, around 255 and twice 255 too.
func TestFillEverywhere(t *testing.T) {
	for _, n := range []int{2, 3, 4, 5, 8, 20, 24, 61, 254, 255, 256, 257, 509, 510, 511, 512, 700} {
		for at := range n - 1 {
			checkFill(t, probe.Mixed(n, n+at), at)
			checkFill(t, bytes.Repeat([]byte{0xff}, n), at)
			checkFill(t, bytes.Repeat([]byte{0xfe}, n), at)
			checkFill(t, make([]byte, n), at)
		}
	}
	for _, at := range []int{0, 1, 65534, 500000, 1000000, 1000001} {
		checkFill(t, probe.Mixed(1000003, at), at)
	}
}

// P3.1: each of both bytes is filled with all of 0 to 254, and with nothing else, as the bytes beside it ask.
func TestFillReachesAll(t *testing.T) {
	var ahead, behind [256]int
	for x := range 256 {
		got := filled(t, []byte{byte(x), 9, 9}, 1)
		ahead[got[1]]++
		behind[got[2]]++
	}
	for x := range 255 {
		if ahead[x] == 0 || behind[x] == 0 {
			t.Errorf("%d is filled %d times ahead and %d times behind", x, ahead[x], behind[x])
		}
	}
	if ahead[255] != 0 || behind[255] != 0 {
		t.Error("255 is filled")
	}
}

// P3.1: what Fill refuses: places below 0, and those from which on there aren't two bytes.
func TestFillRefuses(t *testing.T) {
	for _, c := range []struct {
		b  string
		at int
	}{
		{"", 0}, {"", -1}, {"", -2}, {"", 1},
		{"\x01", 0}, {"\x01", -1}, {"\x01", 1},
		{"\x01\x02", 1}, {"\x01\x02", 2}, {"\x01\x02", 3}, {"\x01\x02", -1}, {"\x01\x02", -2},
		{"\x01\x02\x03", 2}, {"\x01\x02\x03", 3}, {"\x01\x02\x03", -1},
		{"\x01\x02\x03\x04", 3}, {"\x01\x02\x03\x04", 4}, {"\x01\x02\x03\x04", -1}, {"\x01\x02\x03\x04", -4},
		{"\x01\x02", math.MaxInt64}, {"\x01\x02", math.MaxInt64 - 1}, {"\x01\x02", math.MaxInt64 - 2},
		{"\x01\x02", math.MinInt64}, {"\x01\x02", math.MinInt64 + 1},
	} {
		if got, is := Fill([]byte(c.b), c.at); is || len(got) != 0 {
			t.Errorf("Fill(%x, %d) = %x, %v", c.b, c.at, got, is)
		}
	}
	if got, is := Fill(nil, 0); is || len(got) != 0 {
		t.Errorf("Fill(nil, 0) = %x, %v", got, is)
	}
	// Spare room doesn't count as bytes that are there.
	b, _ := probe.Roomy([]byte{1, 2}, 6, 0xEE)
	for at := 1; at < 4; at++ {
		if got, is := Fill(b, at); is || len(got) != 0 {
			t.Errorf("Fill in spare room at %d = %x, %v", at, got, is)
		}
	}
}

// P3.2: whole bytes of which one is changed, wherever and to whatever, aren't whole, but where 0 becomes 255 or 255 becomes 0.
func TestOneByteChanged(t *testing.T) {
	for _, b := range [][]byte{
		{0},
		{255},
		filled(t, make([]byte, 7), 3),
		filled(t, bytes.Repeat([]byte{0xff}, 8), 2),
		filled(t, probe.Mixed(24, 1), 14),
		filled(t, probe.Mixed(300, 2), 298),
	} {
		if !Whole(b) {
			t.Fatalf("%x isn't whole", b)
		}
		for i, was := range b {
			for now := range 256 {
				b[i] = byte(now)
				by := now - int(was)
				if want := by == 0 || by == 255 || by == -255; Whole(b) != want {
					t.Errorf("%d bytes, byte %d changed from %d to %d: whole %v", len(b), i, was, now, !want)
				}
			}
			b[i] = was
		}
	}
}

// R4: Sums and Whole leave b and its spare room as they were.
func TestSumsKeepTheirHandsOff(t *testing.T) {
	b, all := probe.Roomy([]byte{1, 253, 1}, 5, 0xEE)
	was := string(all)
	if first, second := Sums(b); first != 0 || second != 0 {
		t.Errorf("spare room counts: %d, %d", first, second)
	}
	if !Whole(b) {
		t.Error("spare room counts: not whole")
	}
	if string(all) != was {
		t.Errorf("changed: %x", all)
	}
}

// R4: Fill leaves b and its spare room as they were, and answers memory of its own.
func TestFillKeepsItsHandsOff(t *testing.T) {
	b, all := probe.Roomy([]byte{1, 9, 9, 2}, 10, 0xEE)
	was := string(all)
	first, second := filled(t, b, 1), filled(t, b, 1)
	Fill(b, 3)
	if string(all) != was {
		t.Errorf("Fill changed its argument: %x", all)
	}
	probe.Scribble(first, 0x5A)
	if string(all) != was {
		t.Errorf("an answer shares its argument's memory: %x", all)
	}
	probe.Scribble(all, 0xA5)
	if string(second) != "\x01\x00\xfc\x02" {
		t.Errorf("an answer shares memory: %x", second)
	}
	// Nothing is to be set, but the answer is new memory all the same.
	again := filled(t, second, 1)
	probe.Scribble(again, 0x5A)
	if string(second) != "\x01\x00\xfc\x02" {
		t.Errorf("an answer is its argument: %x", second)
	}
}

// R5: the same is answered again, whatever was asked in between.
func TestSameAgain(t *testing.T) {
	b := probe.Mixed(17, 9)
	first, second := Sums(b)
	Sums(b[:5])
	Whole(b)
	Fill(b, 4)
	if f, s := Sums(b); f != first || s != second {
		t.Errorf("%d, %d, then %d, %d", first, second, f, s)
	}
}
