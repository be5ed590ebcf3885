package lsa

import (
	"bytes"
	"math"
	"slices"
	"testing"

	"syndic/api"
	"syndic/fletch"
	"syndic/probe"
)

// router answers a router's description that is right, with so many links.
func router(links int) api.Lsa {
	l := api.Lsa{Head: api.Head{Age: 3, Kind: api.Router, Id: 2, Adv: 2, Seq: -5}}
	for i := range links {
		l.Links = append(l.Links, api.Link{Kind: api.Transit + i%2, Id: 17 + i, Data: 18 + 2*i, Cost: 10 + i})
	}
	return l
}

// network answers a network's description that is right, with these members.
func network(members ...int) api.Lsa {
	return api.Lsa{Head: api.Head{Age: 7, Kind: api.Network, Id: 35, Adv: 3, Seq: 9}, Members: members}
}

// edit answers a copy of a description that was changed.
func edit(l api.Lsa, change func(*api.Lsa)) api.Lsa {
	l.Links = slices.Clone(l.Links)
	l.Members = slices.Clone(l.Members)
	change(&l)
	return l
}

// bound is a number of a description: where it stands, its least and its greatest one.
type bound struct {
	name        string
	of          api.Lsa
	set         func(l *api.Lsa, n int)
	least, most int
}

// bounds answers each number that is free within bounds, of a router and of a network.
func bounds() []bound {
	age := func(l *api.Lsa, n int) { l.Head.Age = n }
	kind := func(l *api.Lsa, n int) { l.Head.Kind = n }
	seq := func(l *api.Lsa, n int) { l.Head.Seq = n }
	adv := func(l *api.Lsa, n int) { l.Head.Adv = n }
	out := []bound{
		{"a router's Age", router(1), age, 0, 60},
		{"a router's Kind", router(0), kind, 1, 1},
		{"a router's Seq", router(1), seq, -(1<<31 - 1), 1<<31 - 1},
		{"a router's Id and Adv", router(1), func(l *api.Lsa, n int) { l.Head.Id, l.Head.Adv = n, n }, 1, 15},
		{"a router's Id alone", router(1), func(l *api.Lsa, n int) { l.Head.Id = n }, 2, 2},
		{"a router's Adv alone", router(1), adv, 2, 2},
		{"a network's Age", network(1), age, 0, 60},
		{"a network's Kind", network(1), kind, 2, 2},
		{"a network's Seq", network(1), seq, -(1<<31 - 1), 1<<31 - 1},
		{"a network's Id", network(1), func(l *api.Lsa, n int) { l.Head.Id = n }, 0, 63},
		{"a network's Adv", network(1), adv, 1, 15},
		{"a network's only member", network(1), func(l *api.Lsa, n int) { l.Members[0] = n }, 1, 15},
		{"the first of three members", network(1, 7, 9), func(l *api.Lsa, n int) { l.Members[0] = n }, 1, 6},
		{"the second of three members", network(4, 7, 9), func(l *api.Lsa, n int) { l.Members[1] = n }, 5, 8},
		{"the third of three members", network(4, 7, 9), func(l *api.Lsa, n int) { l.Members[2] = n }, 8, 15},
	}
	for i, name := range []string{"the first link's ", "the second link's ", "the third link's ", "the fourth link's "} {
		out = append(out,
			bound{name + "Kind", router(4), func(l *api.Lsa, n int) { l.Links[i].Kind = n }, 2, 3},
			bound{name + "Id", router(4), func(l *api.Lsa, n int) { l.Links[i].Id = n }, 0, 63},
			bound{name + "Data", router(4), func(l *api.Lsa, n int) { l.Links[i].Data = n }, 0, 63},
			bound{name + "Cost", router(4), func(l *api.Lsa, n int) { l.Links[i].Cost = n }, 1, 100},
		)
	}
	return out
}

// rights answers descriptions that are right: ordinary ones, and each number at its least and its greatest.
func rights() []api.Lsa {
	all := make([]int, 15)
	for i := range all {
		all[i] = i + 1
	}
	out := []api.Lsa{
		router(0), router(1), router(2), router(3), router(4),
		network(1), network(15), network(1, 2), network(3, 9, 15), network(all...),
		// A list that is empty is as one that is nil.
		edit(router(1), func(l *api.Lsa) { l.Members = []int{} }),
		edit(router(0), func(l *api.Lsa) { l.Links = []api.Link{} }),
		edit(network(4), func(l *api.Lsa) { l.Links = []api.Link{} }),
		// Links may be alike.
		edit(router(2), func(l *api.Lsa) { l.Links[1] = l.Links[0] }),
	}
	for _, c := range bounds() {
		for _, n := range []int{c.least, c.most} {
			out = append(out, edit(c.of, func(l *api.Lsa) { c.set(l, n) }))
		}
	}
	return out
}

// wrongs answers descriptions that aren't right: each number one beyond its bounds, and far beyond, and lists that may not be.
func wrongs() []api.Lsa {
	out := []api.Lsa{
		{},
		{Members: []int{1}},
		router(5), router(1000),
		network(),
		network(2, 2), network(3, 2), network(1, 2, 3, 3), network(1, 3, 2, 4), network(15, 15), network(1, 15, 16), network(0, 1), network(-1, 1),
		network(1, 2, 3, 4, 5, 6, 7, 8, 9, 10, 11, 12, 13, 14, 15, 15), network(1, 2, 3, 4, 5, 6, 7, 8, 9, 10, 11, 12, 13, 14, 15, 16),
		network(slices.Repeat([]int{1}, 100000)...),
		edit(router(1), func(l *api.Lsa) { l.Members = []int{1} }),
		edit(router(0), func(l *api.Lsa) { l.Members = []int{0} }),
		edit(network(1), func(l *api.Lsa) { l.Links = router(1).Links }),
		edit(network(1), func(l *api.Lsa) { l.Links = make([]api.Link, 1) }),
		edit(router(1), func(l *api.Lsa) { l.Links = append(l.Links, api.Link{}) }),
	}
	for _, c := range bounds() {
		for _, n := range []int{c.least - 1, c.most + 1, math.MinInt64, math.MaxInt64, c.least - 1<<32, c.most + 1<<32} {
			out = append(out, edit(c.of, func(l *api.Lsa) { c.set(l, n) }))
		}
	}
	return out
}

// slowBytes works a description's bytes out one by one, but for the two of the sum, which are 0.
func slowBytes(l api.Lsa) []byte {
	var b []byte
	add := func(w, n int) {
		for at := w - 1; at >= 0; at-- {
			b = append(b, byte(n>>(8*at)))
		}
	}
	h := l.Head
	add(2, h.Age)
	add(1, 0)
	add(1, h.Kind)
	add(4, h.Id)
	add(4, h.Adv)
	add(4, h.Seq)
	add(2, 0)
	if h.Kind == api.Router {
		add(2, 24+12*len(l.Links))
		add(4, len(l.Links))
		for _, k := range l.Links {
			add(4, k.Id)
			add(4, k.Data)
			add(1, k.Kind)
			add(1, 0)
			add(2, k.Cost)
		}
		return b
	}
	add(2, 20+4*len(l.Members))
	for _, m := range l.Members {
		add(4, m)
	}
	return b
}

// slowWhole tells whether bytes are whole, by the words of chapter 3.
func slowWhole(b []byte) bool {
	first, second := 0, 0
	for i, x := range b {
		first += int(x)
		second += (len(b) - i) * int(x)
	}
	return first%255 == 0 && second%255 == 0
}

// put answers a description's bytes, and ends the test if there are none.
func put(t *testing.T, l api.Lsa) []byte {
	t.Helper()
	b, err := Put(l)
	if err != api.OK {
		t.Fatalf("Put(%v): %v", l, err)
	}
	return b
}

// refit answers b with its length set, and its sum fitted to all that the length tells.
func refit(t *testing.T, b []byte, long int) []byte {
	t.Helper()
	b = slices.Clone(b)
	b[18], b[19] = byte(long>>8), byte(long)
	whole, is := fletch.Fill(b[2:long], 14)
	if !is {
		t.Fatalf("no sum in %x", b)
	}
	copy(b[2:], whole)
	return b
}

// refused holds what Get answers against an error, beside which there is nothing.
func refused(t *testing.T, what string, b []byte, want api.Errno) {
	t.Helper()
	l, err := Get(b)
	if err != want {
		t.Errorf("%s: Get(%x): error %d, want %d", what, b, int(err), int(want))
	}
	if l.Head != (api.Head{}) || len(l.Links) != 0 || len(l.Members) != 0 {
		t.Errorf("%s: Get(%x): %v beside an error", what, b, l)
	}
}

// P4.1: descriptions that are right, at all edges, and those that aren't; Sum and Long aren't asked.
func TestRight(t *testing.T) {
	sums := []api.Head{{}, {Sum: 65535, Long: 65535}, {Sum: -1, Long: -1}, {Sum: math.MaxInt64, Long: math.MinInt64}}
	for _, s := range sums {
		for i, l := range rights() {
			l.Head.Sum, l.Head.Long = s.Sum, s.Long
			if !Right(l) {
				t.Errorf("%d isn't right: %v", i, l)
			}
		}
		for i, l := range wrongs() {
			l.Head.Sum, l.Head.Long = s.Sum, s.Long
			if Right(l) {
				t.Errorf("%d is right: %v", i, l)
			}
		}
	}
}

// P4.1: each number of a description is right just within its bounds.
func TestRightWithin(t *testing.T) {
	for _, c := range bounds() {
		for n := max(c.least, -200) - 3; n <= min(c.most, 200)+3; n++ {
			l := edit(c.of, func(l *api.Lsa) { c.set(l, n) })
			if want := c.least <= n && n <= c.most; Right(l) != want {
				t.Errorf("%s is %d: right %v", c.name, n, !want)
			}
		}
	}
}

// P4.1: bytes as the chapter lays them out; the sums were found by trying all pairs of bytes from 0 to 254.
func TestPutBytes(t *testing.T) {
	for _, c := range []struct {
		l    api.Lsa
		want string
	}{
		{api.Lsa{Head: api.Head{Kind: api.Router, Id: 1, Adv: 1}},
			"\x00\x00\x00\x01\x00\x00\x00\x01\x00\x00\x00\x01\x00\x00\x00\x00\x12\xd2\x00\x18\x00\x00\x00\x00"},
		{api.Lsa{Head: api.Head{Age: 60, Kind: api.Router, Id: 15, Adv: 15, Seq: api.FirstSeq}},
			"\x00\x3c\x00\x01\x00\x00\x00\x0f\x00\x00\x00\x0f\x80\x00\x00\x01\xac\x9a\x00\x18\x00\x00\x00\x00"},
		{api.Lsa{Head: api.Head{Age: 3, Kind: api.Router, Id: 2, Adv: 2, Seq: -5}, Links: []api.Link{{Kind: api.Transit, Id: 17, Data: 18, Cost: 10}}},
			"\x00\x03\x00\x01\x00\x00\x00\x02\x00\x00\x00\x02\xff\xff\xff\xfb\xa2\x08\x00\x24\x00\x00\x00\x01\x00\x00\x00\x11\x00\x00\x00\x12\x02\x00\x00\x0a"},
		{api.Lsa{Head: api.Head{Age: 1, Kind: api.Network, Id: 63, Adv: 15, Seq: api.LastSeq}, Members: []int{1, 2, 15}},
			"\x00\x01\x00\x02\x00\x00\x00\x3f\x00\x00\x00\x0f\x7f\xff\xff\xff\xc0\x3d\x00\x20\x00\x00\x00\x01\x00\x00\x00\x02\x00\x00\x00\x0f"},
	} {
		if b := put(t, c.l); string(b) != c.want {
			t.Errorf("Put(%v) = %x, want %x", c.l, b, c.want)
		}
	}
}

// P4.1: bytes of everything that is right, whatever Sum and Long it is handed with.
func TestPut(t *testing.T) {
	for _, l := range rights() {
		b := put(t, l)
		if len(b) < 20 || b[16] == 255 || b[17] == 255 || !slowWhole(b[2:]) {
			t.Fatalf("Put(%v) = %x: the sum isn't right", l, b)
		}
		without := slices.Clone(b)
		without[16], without[17] = 0, 0
		if want := slowBytes(l); !bytes.Equal(without, want) {
			t.Errorf("Put(%v) = %x, want %x", l, without, want)
		}
		for _, n := range []int{1, 65535, -1, math.MaxInt64, math.MinInt64} {
			other := edit(l, func(l *api.Lsa) { l.Head.Sum, l.Head.Long = n, n })
			if again := put(t, other); !bytes.Equal(again, b) {
				t.Errorf("Put(%v) = %x, want %x", other, again, b)
			}
		}
	}
	if n := len(put(t, router(0))); n != 24 {
		t.Errorf("a router without links has %d bytes", n)
	}
}

// P4.1: the Age bears on its own two bytes alone.
func TestPutAge(t *testing.T) {
	for _, l := range []api.Lsa{router(3), network(2, 5)} {
		young := put(t, l)
		for age := range 61 {
			b := put(t, edit(l, func(l *api.Lsa) { l.Head.Age = age }))
			if b[0] != 0 || int(b[1]) != age || !bytes.Equal(b[2:], young[2:]) {
				t.Errorf("of age %d: %x, want behind the age %x", age, b, young[2:])
			}
		}
	}
}

// P4.1: what isn't right isn't put.
func TestPutRefuses(t *testing.T) {
	for i, l := range wrongs() {
		if b, err := Put(l); err != api.ErrArg || len(b) != 0 {
			t.Errorf("%d: Put(%v) = %x, %v", i, l.Head, b, err)
		}
	}
}

// P4.1: Seal sets Sum and Long as the bytes have them, and nothing else.
func TestSeal(t *testing.T) {
	for _, l := range rights() {
		b := put(t, l)
		want := edit(l, func(l *api.Lsa) {
			l.Head.Sum = int(b[16])*256 + int(b[17])
			l.Head.Long = len(b)
		})
		for _, n := range []int{0, 1, -1, math.MaxInt64} {
			got := Seal(edit(l, func(l *api.Lsa) { l.Head.Sum, l.Head.Long = n, n }))
			if got.Head != want.Head || !slices.Equal(got.Links, want.Links) || !slices.Equal(got.Members, want.Members) {
				t.Errorf("Seal(%v) = %v, want %v", l, got, want)
			}
		}
		if again := Seal(want); again.Head != want.Head {
			t.Errorf("sealed again: %v, want %v", again, want)
		}
	}
}

// P4.1: Seal leaves what isn't right as it is, its Sum and Long too.
func TestSealOfWrong(t *testing.T) {
	for i, l := range wrongs() {
		for _, n := range []int{0, 24, -1, math.MinInt64} {
			l.Head.Sum, l.Head.Long = n, n
			got := Seal(l)
			if got.Head != l.Head || !slices.Equal(got.Links, l.Links) || !slices.Equal(got.Members, l.Members) {
				t.Errorf("%d: Seal(%v) = %v", i, l.Head, got.Head)
			}
		}
	}
}

// P4.3: what is put is got, sealed, whatever bytes are behind it.
func TestPutAndGet(t *testing.T) {
	for _, l := range rights() {
		b := put(t, l)
		want := Seal(l)
		for n := range 30 {
			for _, more := range [][]byte{make([]byte, n), bytes.Repeat([]byte{0xff}, n), probe.Mixed(n, n)} {
				got, err := Get(slices.Concat(b, more))
				if err != api.OK || got.Head != want.Head || !slices.Equal(got.Links, want.Links) || !slices.Equal(got.Members, want.Members) {
					t.Fatalf("Get of %x and %x: %v, %v, want %v", b, more, got, err, want)
				}
			}
		}
		// A description behind another one isn't taken for a part of it.
		if got, err := Get(slices.Concat(b, b)); err != api.OK || !Same(got, want) {
			t.Errorf("Get of two: %v, %v, want %v", got, err, want)
		}
	}
}

// P4.1: fewer than 20 bytes, or than are told, are an error, whatever else is wrong, and spare room isn't read.
func TestGetEnds(t *testing.T) {
	for _, l := range []api.Lsa{router(0), router(4), network(1), network(1, 2, 3)} {
		b := put(t, l)
		for n := range b {
			refused(t, "cut", b[:n:n], api.ErrEnd)
			refused(t, "cut, the rest in spare room", b[:n], api.ErrEnd)
			refused(t, "cut, and spoilt", bytes.Repeat([]byte{0xff}, n), api.ErrEnd)
		}
		for _, long := range []int{len(b) + 1, len(b) + 2, 255, 256, 65535} {
			wrong := slices.Clone(b)
			wrong[18], wrong[19] = byte(long>>8), byte(long)
			refused(t, "longer", wrong, api.ErrEnd)
			wrong[0], wrong[2], wrong[3] = 1, 1, 9
			refused(t, "longer, and misformed", wrong, api.ErrEnd)
		}
	}
	refused(t, "nil", nil, api.ErrEnd)
	refused(t, "empty", []byte{}, api.ErrEnd)
	refused(t, "19 zeros", make([]byte, 19), api.ErrEnd)
	refused(t, "20 zeros", make([]byte, 20), api.ErrForm)
}

// P4.1: a length below 20 is misformed, whether the sum is right or not.
func TestGetLengthBelowHead(t *testing.T) {
	for _, l := range []api.Lsa{router(2), network(1)} {
		b := put(t, l)
		for long := range 20 {
			wrong := slices.Clone(b)
			wrong[18], wrong[19] = 0, byte(long)
			refused(t, "a short length", wrong, api.ErrForm)
			whole, is := fletch.Fill(wrong[2:], 14)
			if !is {
				t.Fatal("no sum")
			}
			refused(t, "a short length, all whole", slices.Concat(b[:2], whole), api.ErrForm)
		}
	}
}

// P4.1: the sum is asked ahead of the form, over just what the length tells, and without the Age.
func TestGetSum(t *testing.T) {
	for _, l := range []api.Lsa{router(0), router(2), network(1, 4)} {
		b := put(t, l)
		for name, change := range map[string]func(b []byte){
			"another sum":            func(b []byte) { b[16]++ },
			"and an age":             func(b []byte) { b[16]++; b[1] = 61 },
			"a 0 that isn't":         func(b []byte) { b[2] = 1 },
			"another kind":           func(b []byte) { b[3] = 7 },
			"another Id":             func(b []byte) { b[7]++ },
			"an Adv that may not be": func(b []byte) { b[11] = 16 },
			"a Seq that may not be":  func(b []byte) { copy(b[12:], "\x80\x00\x00\x00") },
			"the last byte":          func(b []byte) { b[len(b)-1]++ },
			"a link more":            func(b []byte) { b[23]++ },
		} {
			wrong := slices.Clone(b)
			change(wrong)
			refused(t, name, wrong, api.ErrSum)
		}
		// Whole with the bytes behind it, but not by itself.
		behind := slices.Concat(b, []byte{1, 2, 3, 4})
		whole, _ := fletch.Fill(behind[2:], 14)
		refused(t, "whole beyond its length", slices.Concat(b[:2], whole), api.ErrSum)
		// Whole with the Age, but not without it.
		aged := edit(l, func(l *api.Lsa) { l.Head.Age = 5 })
		whole, _ = fletch.Fill(put(t, aged), 16)
		refused(t, "whole with its age", whole, api.ErrSum)
	}
}

// P4.1: the age isn't in the sum: 60 is got, beyond it is misformed.
func TestGetAge(t *testing.T) {
	for _, l := range []api.Lsa{router(1), network(1, 4)} {
		b := put(t, l)
		for age := range 65536 {
			b[0], b[1] = byte(age>>8), byte(age)
			if age > 60 {
				refused(t, "an age beyond", b, api.ErrForm)
			} else if got, err := Get(b); err != api.OK || got.Head.Age != age {
				t.Errorf("of age %d: %v, %v", age, got, err)
			}
		}
	}
}

// P4.1: whole bytes with a number beyond its bounds, or a byte that must be 0 and isn't, are misformed.
func TestGetMisformed(t *testing.T) {
	four := func(at int, n uint32) func(b []byte) {
		return func(b []byte) { b[at], b[at+1], b[at+2], b[at+3] = byte(n>>24), byte(n>>16), byte(n>>8), byte(n) }
	}
	one := func(at int, n byte) func(b []byte) { return func(b []byte) { b[at] = n } }
	for _, c := range []struct {
		of     api.Lsa
		change func(b []byte)
	}{
		// The head's.
		{router(1), one(2, 1)}, {router(1), one(2, 255)}, {network(1), one(2, 1)}, {network(1), one(2, 128)},
		{router(1), one(3, 0)}, {router(1), one(3, 3)}, {router(0), one(3, 255)}, {network(1), one(3, 0)}, {network(1), one(3, 3)},
		{router(1), four(4, 3)}, {router(1), four(4, 1)}, {router(1), four(4, 0)}, {router(1), four(4, 2+1<<24)}, {router(1), four(4, 2+1<<8)},
		{router(1), four(8, 3)}, {router(1), four(8, 1)}, {router(1), four(8, 0)}, {router(1), four(8, 2+1<<16)},
		{router(1), func(b []byte) { four(4, 0)(b); four(8, 0)(b) }},
		{router(1), func(b []byte) { four(4, 16)(b); four(8, 16)(b) }},
		{network(1), four(4, 64)}, {network(1), four(4, 1<<8)}, {network(1), four(4, 1<<32-1)},
		{network(1), four(8, 0)}, {network(1), four(8, 16)}, {network(1), four(8, 3+1<<8)}, {network(1), four(8, 1<<32-1)},
		{router(1), four(12, 1<<31)}, {network(1), four(12, 1<<31)},
		// A router's and a network's, told as the other one.
		{router(0), one(3, 2)}, {router(1), one(3, 2)}, {network(1), one(3, 1)}, {network(1, 2), one(3, 1)},
		// More links told, or fewer, than there are bytes for.
		{router(0), four(20, 1)}, {router(0), four(20, 1<<32-1)}, {router(0), four(20, 1<<31)},
		{router(1), four(20, 0)}, {router(1), four(20, 2)}, {router(4), four(20, 3)}, {router(4), four(20, 5)}, {router(4), four(20, 4+1<<8)},
		// The links'.
		{router(1), four(24, 64)}, {router(1), four(24, 17+1<<8)}, {router(1), four(24, 1<<32-1)},
		{router(1), four(28, 64)}, {router(1), four(28, 1<<31)},
		{router(1), one(32, 1)}, {router(1), one(32, 4)}, {router(1), one(32, 0)}, {router(1), one(32, 255)},
		{router(1), one(33, 1)}, {router(1), one(33, 255)}, {router(4), one(69, 1)}, {router(4), one(45, 4)},
		{router(1), one(35, 0)}, {router(1), one(35, 101)}, {router(1), one(34, 1)}, {router(4), one(71, 0)}, {router(4), one(71, 101)},
		// The members'.
		{network(1), four(20, 0)}, {network(1), four(20, 16)}, {network(1), four(20, 1+1<<8)}, {network(1), four(20, 1<<32-1)},
		{network(1, 2), four(20, 2)}, {network(1, 2), four(20, 3)}, {network(1, 2), four(24, 1)}, {network(1, 2), four(24, 0)}, {network(1, 2), four(24, 16)},
	} {
		b := put(t, c.of)
		c.change(b)
		b = refit(t, b, len(b))
		refused(t, "misformed", b, api.ErrForm)
		refused(t, "misformed, and bytes behind", slices.Concat(b, []byte{1, 2, 3}), api.ErrForm)
		b[1] = 61
		refused(t, "misformed, and of an age beyond", b, api.ErrForm)
		b[16] ^= 1
		refused(t, "misformed, and not whole", b, api.ErrSum)
	}
}

// P4.1: whole bytes of a length that doesn't fit what is told in them are misformed.
func TestGetLengthMisfits(t *testing.T) {
	for _, l := range []api.Lsa{router(0), router(1), router(4), network(1), network(1, 2, 3)} {
		b := put(t, l)
		padded := slices.Concat(b, make([]byte, 40))
		for long := 20; long <= len(padded); long++ {
			cut := refit(t, padded, long)
			// A network may lose members behind its first one; all else is misformed.
			whole := long == len(b) || l.Head.Kind == api.Network && long > 20 && long < len(b) && long%4 == 0
			if !whole {
				refused(t, "a length that misfits", cut, api.ErrForm)
			} else if got, err := Get(cut); err != api.OK || got.Head.Long != long {
				t.Errorf("Get(%x): %v, %v", cut, got, err)
			}
		}
	}
}

// P4.1: five links are misformed, though there are bytes for them, and so are very many.
func TestGetTooManyLinks(t *testing.T) {
	for _, many := range []int{5, 6, 5459} {
		b := slowBytes(router(0))
		b[22], b[23] = byte(many>>8), byte(many)
		for range many {
			b = append(b, 0, 0, 0, 17, 0, 0, 0, 18, 2, 0, 0, 1)
		}
		refused(t, "too many links", refit(t, b, len(b)), api.ErrForm)
	}
	b := slowBytes(network(1))
	for m := 2; m <= 16; m++ {
		b = append(b, 0, 0, 0, byte(m))
		got, err := Get(refit(t, b, len(b)))
		if want := m <= 15; (err == api.OK) != want || want && len(got.Members) != m {
			t.Errorf("%d members: %v, %v", m, got, err)
		}
	}
}

// P4.1, P4.3: a sum of which a byte is 255, not 0, is whole as well: it is got as it stands.
func TestGetSumOf255(t *testing.T) {
	tried := 0
	for seq := range 1000 {
		l := Seal(edit(network(1), func(l *api.Lsa) { l.Head.Seq = seq }))
		b := put(t, l)
		for _, at := range []int{16, 17} {
			if b[at] != 0 {
				continue
			}
			tried++
			other := slices.Clone(b)
			other[at] = 255
			want := l.Head
			want.Sum += 255 << (8 * (17 - at))
			if got, err := Get(other); err != api.OK || got.Head != want {
				t.Errorf("Get(%x) = %v, %v, want %v", other, got, err, want)
			}
		}
	}
	if tried == 0 {
		t.Error("no sum has a byte that is 0")
	}
}

// P4.3: with one byte behind the Age, but of the length, changed, but by 255, nothing is got.
func TestOneByteChanged(t *testing.T) {
	for _, l := range rights() {
		b := put(t, l)
		for i := 2; i < len(b); i++ {
			if i == 18 || i == 19 {
				continue
			}
			was := b[i]
			for now := range 256 {
				by := now - int(was)
				if by == 0 || by == 255 || by == -255 {
					continue
				}
				b[i] = byte(now)
				if got, err := Get(b); err != api.ErrSum {
					t.Errorf("byte %d of %v changed from %d to %d: %v, %v", i, l, was, now, got, err)
				}
			}
			b[i] = was
		}
	}
}

// P4.2: the 20 bytes of a head, its numbers by their lowest bytes, whatever they are.
func TestPutHead(t *testing.T) {
	for _, c := range []struct {
		h    api.Head
		want string
	}{
		{api.Head{}, "\x00\x00\x00\x00\x00\x00\x00\x00\x00\x00\x00\x00\x00\x00\x00\x00\x00\x00\x00\x00"},
		{api.Head{Age: 3, Kind: 1, Id: 2, Adv: 4, Seq: -5, Sum: 0x1234, Long: 36}, "\x00\x03\x00\x01\x00\x00\x00\x02\x00\x00\x00\x04\xff\xff\xff\xfb\x12\x34\x00\x24"},
		{api.Head{Age: 60, Kind: 2, Id: 63, Adv: 15, Seq: api.LastSeq, Sum: 65535, Long: 65535}, "\x00\x3c\x00\x02\x00\x00\x00\x3f\x00\x00\x00\x0f\x7f\xff\xff\xff\xff\xff\xff\xff"},
		{api.Head{Seq: api.FirstSeq, Id: 1<<32 - 1}, "\x00\x00\x00\x00\xff\xff\xff\xff\x00\x00\x00\x00\x80\x00\x00\x01\x00\x00\x00\x00"},
		{api.Head{Age: -1, Kind: -1, Id: -1, Adv: -1, Seq: -1, Sum: -1, Long: -1}, "\xff\xff\x00\xff\xff\xff\xff\xff\xff\xff\xff\xff\xff\xff\xff\xff\xff\xff\xff\xff"},
		{api.Head{Age: 0x10203, Kind: 0x104, Id: 0x0102030405060708, Adv: 1<<40 + 9, Seq: 1<<32 + 10, Sum: 0x0b0c0d, Long: 0x0e0f10}, "\x02\x03\x00\x04\x05\x06\x07\x08\x00\x00\x00\x09\x00\x00\x00\x0a\x0c\x0d\x0f\x10"},
		{api.Head{Age: math.MinInt64, Kind: math.MaxInt64, Id: math.MinInt64, Adv: math.MaxInt64, Seq: math.MinInt64, Sum: math.MaxInt64, Long: math.MinInt64}, "\x00\x00\x00\xff\x00\x00\x00\x00\xff\xff\xff\xff\x00\x00\x00\x00\xff\xff\x00\x00"},
	} {
		if got := PutHead(c.h); string(got) != c.want {
			t.Errorf("PutHead(%v) = %x, want %x", c.h, got, c.want)
		}
	}
}

// P4.2: a head is got as it was put, with whatever is behind it; a description's bytes begin with its sealed head.
func TestGetHead(t *testing.T) {
	for _, l := range rights() {
		want := Seal(l).Head
		for _, b := range [][]byte{PutHead(want), put(t, l), slices.Concat(PutHead(want), probe.Mixed(9, 1))} {
			if got, err := GetHead(b); err != api.OK || got != want {
				t.Errorf("GetHead(%x) = %v, %v, want %v", b, got, err, want)
			}
		}
	}
}

// P4.2: Id, Sum and Long of a head are whatever they are; it may be of a description that isn't right.
func TestGetHeadOfWrong(t *testing.T) {
	for _, h := range []api.Head{
		{Kind: 1, Id: 3, Adv: 2},
		{Kind: 1, Id: 0, Adv: 15},
		{Kind: 1, Id: 1<<32 - 1, Adv: 1},
		{Kind: 2, Id: 64, Adv: 1},
		{Kind: 2, Id: 1 << 31, Adv: 1, Long: 20},
		{Kind: 2, Id: 1<<32 - 1, Adv: 15, Age: 60, Seq: api.LastSeq, Sum: 65535, Long: 65535},
		{Kind: 1, Id: 1, Adv: 1, Seq: api.FirstSeq},
		{Kind: 1, Id: 1, Adv: 1, Seq: -1, Sum: 1, Long: 19},
		{Kind: 2, Id: 1, Adv: 1, Seq: 1, Sum: 32768, Long: 32768},
	} {
		if got, err := GetHead(PutHead(h)); err != api.OK || got != h {
			t.Errorf("GetHead of %v: %v, %v", h, got, err)
		}
	}
}

// P4.2: what GetHead refuses, and which error it is.
func TestGetHeadRefuses(t *testing.T) {
	good := PutHead(api.Head{Age: 60, Kind: 2, Id: 7, Adv: 15, Seq: -1, Sum: 0x102, Long: 24})
	none := func(b []byte, want api.Errno) {
		t.Helper()
		if h, err := GetHead(b); err != want || h != (api.Head{}) {
			t.Errorf("GetHead(%x) = %v, %d, want error %d", b, h, int(err), int(want))
		}
	}
	none(nil, api.ErrEnd)
	for n := range good {
		none(good[:n], api.ErrEnd)
		none(bytes.Repeat([]byte{0xff}, n), api.ErrEnd)
	}
	for _, c := range []struct {
		at    int
		bytes string
	}{
		{0, "\x00\x3d"}, {0, "\x01\x00"}, {0, "\x01\x3c"}, {0, "\xff\xff"}, {0, "\x80\x00"},
		{2, "\x01"}, {2, "\xff"},
		{3, "\x00"}, {3, "\x03"}, {3, "\xff"},
		{8, "\x00\x00\x00\x00"}, {8, "\x00\x00\x00\x10"}, {8, "\x00\x00\x01\x0f"}, {8, "\x01\x00\x00\x0f"}, {8, "\xff\xff\xff\xff"},
		{12, "\x80\x00\x00\x00"},
	} {
		b := slices.Clone(good)
		copy(b[c.at:], c.bytes)
		none(b, api.ErrForm)
		none(slices.Concat(b, good), api.ErrForm)
		none(b[:19], api.ErrEnd)
	}
}

// P4.2: Same holds all against all: each number of the head, of each link and each member, and how many there are.
func TestSame(t *testing.T) {
	full := api.Lsa{Head: api.Head{Age: 1, Kind: 2, Id: 3, Adv: 4, Seq: 5, Sum: 6, Long: 7}, Links: router(2).Links, Members: []int{3, 1, 2}}
	changes := []func(*api.Lsa){
		func(l *api.Lsa) { l.Head.Age++ },
		func(l *api.Lsa) { l.Head.Kind++ },
		func(l *api.Lsa) { l.Head.Id++ },
		func(l *api.Lsa) { l.Head.Adv++ },
		func(l *api.Lsa) { l.Head.Seq++ },
		func(l *api.Lsa) { l.Head.Sum++ },
		func(l *api.Lsa) { l.Head.Long++ },
		func(l *api.Lsa) { l.Links[0].Kind++ },
		func(l *api.Lsa) { l.Links[1].Id++ },
		func(l *api.Lsa) { l.Links[0].Data++ },
		func(l *api.Lsa) { l.Links[1].Cost++ },
		func(l *api.Lsa) { l.Links = l.Links[:1] },
		func(l *api.Lsa) { l.Links = nil },
		func(l *api.Lsa) { l.Links[0], l.Links[1] = l.Links[1], l.Links[0] },
		func(l *api.Lsa) { l.Members[2]++ },
		func(l *api.Lsa) { l.Members[0], l.Members[1] = l.Members[1], l.Members[0] },
		func(l *api.Lsa) { l.Members = l.Members[:2] },
		func(l *api.Lsa) { l.Members = append(l.Members, 4) },
		func(l *api.Lsa) { l.Members = nil },
	}
	if !Same(full, edit(full, func(*api.Lsa) {})) {
		t.Error("alike, and not the same")
	}
	for i, change := range changes {
		other := edit(full, change)
		if Same(full, other) || Same(other, full) {
			t.Errorf("change %d isn't seen", i)
		}
		if !Same(other, other) {
			t.Errorf("change %d isn't the same as itself", i)
		}
	}
	// nil and empty lists are one, and what isn't right may be the same.
	empty := api.Lsa{Links: []api.Link{}, Members: []int{}}
	if !Same(api.Lsa{}, empty) || !Same(empty, api.Lsa{}) || !Same(api.Lsa{}, api.Lsa{}) {
		t.Error("an empty list isn't as none")
	}
}

// R4: what is handed in stays as it was, spare room included, of what is right and what isn't.
func TestHandsOffDescriptions(t *testing.T) {
	for _, l := range []api.Lsa{router(0), router(2), network(1, 5), router(5), network(), edit(router(2), func(l *api.Lsa) { l.Members = []int{4, 2} })} {
		given, links, members := probe.RoomyLsa(l)
		wasLinks, wasMembers := slices.Clone(links), slices.Clone(members)
		Right(given)
		b, _ := Put(given)
		sealed := Seal(given)
		Same(given, sealed)
		PutHead(given.Head)
		probe.Scribble(b, 0x5A)
		probe.ScribbleLsa(sealed)
		_ = append(sealed.Links, api.Link{Cost: -2})
		_ = append(sealed.Members, -2)
		if !slices.Equal(links, wasLinks) || !slices.Equal(members, wasMembers) {
			t.Errorf("%v changed: %v %v", l, links, members)
		}
	}
}

// R4: a sealed description is memory of its own, whether it is right or not.
func TestSealIsNewMemory(t *testing.T) {
	for _, l := range []api.Lsa{router(3), network(1, 5), router(6), network(5, 1), edit(router(2), func(l *api.Lsa) { l.Members = []int{4, 2} })} {
		given, links, members := probe.RoomyLsa(l)
		first, second := Seal(given), Seal(given)
		probe.Scribble(links, api.Link{Cost: -2})
		probe.Scribble(members, -2)
		probe.ScribbleLsa(first)
		if !slices.Equal(second.Links, l.Links) || !slices.Equal(second.Members, l.Members) {
			t.Errorf("the seal of %v shares memory: %v", l, second)
		}
	}
}

// R4: Get and GetHead leave the bytes and their spare room as they were, and what is got is memory of its own.
func TestGetKeepsItsHandsOff(t *testing.T) {
	for _, l := range []api.Lsa{router(3), network(1, 5), router(0)} {
		b, all := probe.Roomy(put(t, l), 40, 0xEE)
		was := string(all)
		first, err := Get(b)
		second, again := Get(b)
		head, _ := GetHead(b)
		if err != api.OK || again != api.OK || string(all) != was {
			t.Fatalf("Get: %v, %v, bytes %x", err, again, all)
		}
		probe.ScribbleLsa(first)
		probe.Scribble(all, 0x5A)
		if !Same(second, Seal(l)) || head != second.Head {
			t.Errorf("what is got shares memory: %v, want %v", second, Seal(l))
		}
	}
	for _, text := range []string{"", "short", "\x00\x3d\x00\x02 twenty bytes and more, which tell nothing"} {
		b, all := probe.Roomy([]byte(text), 40, 0xEE)
		was := string(all)
		Get(b)
		GetHead(b)
		if string(all) != was {
			t.Errorf("bytes that weren't got changed: %x", all)
		}
	}
}

// R4: bytes that are put share none with those that were put ahead of them.
func TestPutIsNewMemory(t *testing.T) {
	l := router(2)
	first, second := put(t, l), put(t, l)
	probe.Scribble(first, 0x5A)
	if got, err := Get(second); err != api.OK || !Same(got, Seal(l)) {
		t.Errorf("two answers share memory: %x", second)
	}
	one, two := PutHead(l.Head), PutHead(l.Head)
	probe.Scribble(one, 0x5A)
	if got, err := GetHead(two); err != api.OK || got != l.Head {
		t.Errorf("two heads share memory: %x", two)
	}
}

// nearly answers bytes that nearly tell a description: of some fields the bounds are kept, of others not.
func nearly(seed int) []byte {
	m := probe.Mixed(200, seed)
	b := make([]byte, 20, 100)
	b[1], b[3] = m[0]%70, 1+m[1]%2
	b[7] = 1 + m[2]%17
	b[11] = b[7]
	copy(b[12:16], m[3:7])
	if b[3] == api.Router {
		many := int(m[7] % 6)
		b = append(b, 0, 0, 0, byte(many))
		for i := range many {
			x := m[20+4*i:]
			b = append(b, 0, 0, 0, x[0]%66, 0, 0, 0, x[1]%66, 2+x[2]%16/15, 0, 0, 1+x[3]%104)
		}
	} else {
		member := byte(0)
		for i := range int(m[7] % 5) {
			member += m[8+i] % 6
			b = append(b, 0, 0, 0, member)
		}
	}
	if m[13]%3 == 0 {
		b[int(m[14])%len(b)] = m[15] % 4
	}
	return b
}

// R1: whatever the bytes, Get and GetHead end; and what is got is right, and is put as the same bytes.
func TestAnyBytes(t *testing.T) {
	var got, not int
	for seed := range 20000 {
		mixed := probe.Mixed(seed%80, seed)
		Get(mixed)
		GetHead(mixed)
		b := nearly(seed)
		b = refit(t, b, len(b))
		l, err := Get(b)
		if err != api.OK {
			refused(t, "nearly", b, api.ErrForm)
			not++
			continue
		}
		got++
		if again := put(t, l); !Right(l) || !bytes.Equal(again, b) || !Same(l, Seal(l)) {
			t.Errorf("Get(%x) = %v, put as %x", b, l, again)
		}
	}
	if got < 1000 || not < 1000 {
		t.Errorf("%d were got, %d weren't", got, not)
	}
}

// R5: the same is answered again, whatever was asked in between.
func TestSameAgain(t *testing.T) {
	l := router(3)
	first := put(t, l)
	Get(first[:21])
	Seal(network(1, 2))
	Put(api.Lsa{})
	GetHead(nil)
	if again := put(t, l); !bytes.Equal(first, again) {
		t.Errorf("%x, then %x", first, again)
	}
	if !Same(Seal(l), Seal(l)) {
		t.Error("two seals of one")
	}
}
