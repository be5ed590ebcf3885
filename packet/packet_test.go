package packet

import (
	"bytes"
	"math"
	"slices"
	"testing"

	"syndic/api"
	"syndic/lsa"
	"syndic/probe"
)

// hello answers a Hello that is right, of one who saw these.
func hello(seen ...int) api.Packet {
	return api.Packet{Kind: api.PHello, From: 3, Hello: api.Hello{Every: 2, Dead: 8, Prio: 1, Dr: 17, Bdr: 19, Seen: seen}}
}

// dd answers a Dd that is right, with so many heads.
func dd(heads int) api.Packet {
	return api.Packet{Kind: api.PDd, From: 4, Dd: api.Dd{More: true, Seq: 0x01020304, Heads: someHeads(heads)}}
}

// first answers a Dd that begins an exchange.
func first() api.Packet {
	return api.Packet{Kind: api.PDd, From: 5, Dd: api.Dd{Init: true, More: true, Master: true, Seq: 7}}
}

// want answers a request for so many keys.
func want(keys int) api.Packet {
	p := api.Packet{Kind: api.PWant, From: 6}
	for i := range keys {
		p.Wants = append(p.Wants, api.Key{Kind: 1 + i%2, Id: 300 + i, Adv: 2 + i})
	}
	return p
}

// update answers an update of so many descriptions, sealed.
func update(lsas int) api.Packet {
	p := api.Packet{Kind: api.PUpdate, From: 7}
	for i := range lsas {
		p.Lsas = append(p.Lsas, someLsa(i))
	}
	return p
}

// ack answers an acknowledgment of so many heads.
func ack(heads int) api.Packet {
	return api.Packet{Kind: api.PAck, From: 8, Acks: someHeads(heads)}
}

// someLsa answers one of several descriptions that are right and sealed.
func someLsa(i int) api.Lsa {
	l := api.Lsa{Head: api.Head{Age: i, Kind: api.Network, Id: 17, Adv: 1, Seq: 5 + i}, Members: []int{1, 3 + i}}
	if i%2 == 1 {
		l = api.Lsa{Head: api.Head{Age: i, Kind: api.Router, Id: 2, Adv: 2, Seq: -5}}
		l.Links = append(l.Links, api.Link{Kind: api.Stub, Id: 16, Data: 18, Cost: 9})
	}
	return lsa.Seal(l)
}

// someHeads answers so many heads, each another one.
func someHeads(n int) []api.Head {
	var out []api.Head
	for i := range n {
		out = append(out, api.Head{Age: 1 + i, Kind: 1 + i%2, Id: 1000 + i, Adv: 4 + i, Seq: -3 + i, Sum: 258 + i, Long: 24 + i})
	}
	return out
}

// edit answers a copy of a packet that was changed.
func edit(p api.Packet, change func(*api.Packet)) api.Packet {
	p = deep(p)
	change(&p)
	return p
}

// deep answers a packet that shares no list with p.
func deep(p api.Packet) api.Packet {
	p.Hello.Seen = slices.Clone(p.Hello.Seen)
	p.Dd.Heads = slices.Clone(p.Dd.Heads)
	p.Wants = slices.Clone(p.Wants)
	p.Acks = slices.Clone(p.Acks)
	p.Lsas = slices.Clone(p.Lsas)
	for i := range p.Lsas {
		p.Lsas[i].Links = slices.Clone(p.Lsas[i].Links)
		p.Lsas[i].Members = slices.Clone(p.Lsas[i].Members)
	}
	return p
}

// bound is a number of a packet: where it stands, its least and its greatest one.
type bound struct {
	name        string
	of          api.Packet
	set         func(p *api.Packet, n int)
	least, most int
}

// headBounds answers each number of a head of a packet.
func headBounds(name string, of api.Packet, at func(p *api.Packet) *api.Head) []bound {
	return []bound{
		{name + "Age", of, func(p *api.Packet, n int) { at(p).Age = n }, 0, 60},
		{name + "Kind", of, func(p *api.Packet, n int) { at(p).Kind = n }, 1, 2},
		{name + "Id", of, func(p *api.Packet, n int) { at(p).Id = n }, 0, 1<<32 - 1},
		{name + "Adv", of, func(p *api.Packet, n int) { at(p).Adv = n }, 1, 15},
		{name + "Seq", of, func(p *api.Packet, n int) { at(p).Seq = n }, -(1<<31 - 1), 1<<31 - 1},
		{name + "Sum", of, func(p *api.Packet, n int) { at(p).Sum = n }, 0, 65535},
		{name + "Long", of, func(p *api.Packet, n int) { at(p).Long = n }, 0, 65535},
	}
}

// bounds answers each number of a packet that is free within bounds.
func bounds() []bound {
	out := []bound{
		{"a Hello's Kind", hello(), func(p *api.Packet, n int) { p.Kind = n }, 1, 1},
		{"Every", hello(1), func(p *api.Packet, n int) { p.Hello.Every = n }, 1, 65535},
		{"Dead", hello(1), func(p *api.Packet, n int) { p.Hello.Dead = n }, 1, 65535},
		{"Prio", hello(1), func(p *api.Packet, n int) { p.Hello.Prio = n }, 0, 255},
		{"Dr", hello(1), func(p *api.Packet, n int) { p.Hello.Dr = n }, 0, 63},
		{"Bdr", hello(1), func(p *api.Packet, n int) { p.Hello.Bdr = n }, 0, 63},
		{"the only one of Seen", hello(1), func(p *api.Packet, n int) { p.Hello.Seen[0] = n }, 1, 15},
		{"the first of Seen", hello(4, 7, 9), func(p *api.Packet, n int) { p.Hello.Seen[0] = n }, 1, 6},
		{"the second of Seen", hello(4, 7, 9), func(p *api.Packet, n int) { p.Hello.Seen[1] = n }, 5, 8},
		{"the third of Seen", hello(4, 7, 9), func(p *api.Packet, n int) { p.Hello.Seen[2] = n }, 8, 15},
		{"a Dd's Seq", dd(1), func(p *api.Packet, n int) { p.Dd.Seq = n }, 0, 1<<32 - 1},
		{"the Seq of one that begins", first(), func(p *api.Packet, n int) { p.Dd.Seq = n }, 0, 1<<32 - 1},
	}
	for _, p := range ordinary() {
		out = append(out, bound{"From", p, func(p *api.Packet, n int) { p.From = n }, 1, 15})
	}
	for i := range 3 {
		out = append(out,
			bound{"a key's Kind", want(3), func(p *api.Packet, n int) { p.Wants[i].Kind = n }, 1, 2},
			bound{"a key's Id", want(3), func(p *api.Packet, n int) { p.Wants[i].Id = n }, 0, 1<<32 - 1},
			bound{"a key's Adv", want(3), func(p *api.Packet, n int) { p.Wants[i].Adv = n }, 1, 15},
		)
		out = append(out, headBounds("a Dd's head's ", dd(3), func(p *api.Packet) *api.Head { return &p.Dd.Heads[i] })...)
		out = append(out, headBounds("an acknowledged head's ", ack(3), func(p *api.Packet) *api.Head { return &p.Acks[i] })...)
	}
	return out
}

// ordinary answers packets that are right, of each kind.
func ordinary() []api.Packet {
	return []api.Packet{
		hello(), hello(1), hello(15), hello(1, 2), hello(2, 9, 15), hello(1, 2, 3, 4, 5, 6, 7, 8, 9, 10, 11, 12, 13, 14, 15),
		first(), dd(0), dd(1), dd(2), dd(3),
		want(1), want(2), want(3),
		update(1), update(2), update(3),
		ack(1), ack(2), ack(3),
	}
}

// rights answers packets that are right: ordinary ones, and each number at its least and its greatest.
func rights() []api.Packet {
	out := ordinary()
	for _, flags := range []api.Dd{{}, {More: true}, {Master: true}, {More: true, Master: true}} {
		for n := range 4 {
			out = append(out, edit(dd(n), func(p *api.Packet) { p.Dd.More, p.Dd.Master = flags.More, flags.Master }))
		}
	}
	// A list that is empty is as one that is nil.
	out = append(out, edit(first(), func(p *api.Packet) {
		p.Dd.Heads, p.Hello.Seen = []api.Head{}, []int{}
		p.Wants, p.Lsas, p.Acks = []api.Key{}, []api.Lsa{}, []api.Head{}
	}))
	// What is told twice is right too.
	out = append(out,
		edit(want(2), func(p *api.Packet) { p.Wants[1] = p.Wants[0] }),
		edit(ack(2), func(p *api.Packet) { p.Acks[1] = p.Acks[0] }),
		edit(update(2), func(p *api.Packet) { p.Lsas[1] = p.Lsas[0] }),
	)
	for _, c := range bounds() {
		for _, n := range []int{c.least, c.most} {
			out = append(out, edit(c.of, func(p *api.Packet) { c.set(p, n) }))
		}
	}
	return out
}

// strangers answers packets that have something that their kind doesn't have.
func strangers() []api.Packet {
	var out []api.Packet
	adds := []struct {
		kind int
		add  func(*api.Packet)
	}{
		{api.PHello, func(p *api.Packet) { p.Hello.Every = 1 }},
		{api.PHello, func(p *api.Packet) { p.Hello.Dead = 1 }},
		{api.PHello, func(p *api.Packet) { p.Hello.Prio = 1 }},
		{api.PHello, func(p *api.Packet) { p.Hello.Dr = 1 }},
		{api.PHello, func(p *api.Packet) { p.Hello.Bdr = -1 }},
		{api.PHello, func(p *api.Packet) { p.Hello.Seen = []int{0} }},
		{api.PDd, func(p *api.Packet) { p.Dd.Init = true }},
		{api.PDd, func(p *api.Packet) { p.Dd.More = true }},
		{api.PDd, func(p *api.Packet) { p.Dd.Master = true }},
		{api.PDd, func(p *api.Packet) { p.Dd.Seq = 1 }},
		{api.PDd, func(p *api.Packet) { p.Dd.Heads = make([]api.Head, 1) }},
		{api.PWant, func(p *api.Packet) { p.Wants = make([]api.Key, 1) }},
		{api.PUpdate, func(p *api.Packet) { p.Lsas = make([]api.Lsa, 1) }},
		{api.PAck, func(p *api.Packet) { p.Acks = make([]api.Head, 1) }},
	}
	for _, p := range []api.Packet{hello(1), first(), dd(1), want(1), update(1), ack(1)} {
		for _, a := range adds {
			if a.kind != p.Kind {
				out = append(out, edit(p, a.add))
			}
		}
		for _, kind := range []int{0, 1, 2, 3, 4, 5, 6, -1, math.MaxInt64, math.MinInt64, p.Kind + 256} {
			if kind != p.Kind {
				out = append(out, edit(p, func(p *api.Packet) { p.Kind = kind }))
			}
		}
	}
	return out
}

// wrongs answers packets that aren't right: each number one beyond its bounds, and far beyond, and lists that may not be.
func wrongs() []api.Packet {
	out := []api.Packet{
		{}, {From: 1}, {Kind: 6, From: 1}, {Kind: api.PHello, From: 1},
		hello(2, 2), hello(3, 2), hello(1, 2, 3, 3), hello(1, 3, 2, 4), hello(0, 1), hello(15, 15), hello(1, 15, 16),
		hello(slices.Repeat([]int{1}, 100000)...),
		dd(4), dd(1000), want(0), want(4), want(1000), update(0), update(4), update(1000), ack(0), ack(4), ack(1000),
		edit(first(), func(p *api.Packet) { p.Dd.More = false }),
		edit(first(), func(p *api.Packet) { p.Dd.Master = false }),
		edit(first(), func(p *api.Packet) { p.Dd.More, p.Dd.Master = false, false }),
		edit(first(), func(p *api.Packet) { p.Dd.Heads = someHeads(1) }),
		edit(first(), func(p *api.Packet) { p.Dd.Heads = someHeads(3) }),
		edit(dd(1), func(p *api.Packet) { p.Dd.Heads[0] = api.Head{} }),
		edit(want(3), func(p *api.Packet) { p.Wants[2] = api.Key{} }),
		edit(ack(2), func(p *api.Packet) { p.Acks[1] = api.Head{} }),
	}
	for i := range 3 {
		for _, change := range lsaChanges() {
			out = append(out, edit(update(3), func(p *api.Packet) { change(&p.Lsas[i]) }))
		}
	}
	for _, c := range bounds() {
		for _, n := range []int{c.least - 1, c.most + 1, math.MinInt64, math.MaxInt64, c.least - 1<<32, c.most + 1<<32} {
			out = append(out, edit(c.of, func(p *api.Packet) { c.set(p, n) }))
		}
	}
	return append(out, strangers()...)
}

// lsaChanges answers changes after which a description isn't right, or isn't sealed any more.
func lsaChanges() []func(*api.Lsa) {
	return []func(*api.Lsa){
		func(l *api.Lsa) { *l = api.Lsa{} },
		func(l *api.Lsa) { l.Head.Age = 61 },
		func(l *api.Lsa) { l.Head.Age = -1 },
		func(l *api.Lsa) { l.Head.Adv = 16 },
		func(l *api.Lsa) { l.Head.Seq = -(1 << 31) },
		func(l *api.Lsa) { l.Head.Seq++ },
		func(l *api.Lsa) { l.Head.Sum++ },
		func(l *api.Lsa) { l.Head.Sum += 1 << 16 },
		func(l *api.Lsa) { l.Head.Sum = 0 },
		func(l *api.Lsa) { l.Head.Long++ },
		func(l *api.Lsa) { l.Head.Long += 1 << 16 },
		func(l *api.Lsa) { l.Head.Long = 0 },
		func(l *api.Lsa) { l.Links, l.Members = nil, nil },
		func(l *api.Lsa) { l.Links, l.Members = someLsa(1).Links, []int{1} },
		// Of a kind that it isn't, but with that kind's sum.
		func(l *api.Lsa) { l.Head.Kind = 3 },
		// Not right, and so left by Seal as it is.
		func(l *api.Lsa) { *l = lsa.Seal(api.Lsa{Head: api.Head{Kind: 2, Id: 17, Adv: 1}}) },
	}
}

// slowBytes works a packet's bytes out one by one, but for the two of the sum, which are 0.
func slowBytes(p api.Packet) []byte {
	var b []byte
	add := func(w int, numbers ...int) {
		for _, n := range numbers {
			for at := w - 1; at >= 0; at-- {
				b = append(b, byte(n>>(8*at)))
			}
		}
	}
	heads := func(heads []api.Head) {
		for _, h := range heads {
			add(2, h.Age)
			add(1, 0, h.Kind)
			add(4, h.Id, h.Adv, h.Seq)
			add(2, h.Sum, h.Long)
		}
	}
	add(1, 2, p.Kind, 0, 0)
	add(4, p.From, 0, 0, 0, 0)
	switch p.Kind {
	case 1:
		add(2, p.Hello.Every)
		add(1, 0, p.Hello.Prio)
		add(4, p.Hello.Dead, p.Hello.Dr, p.Hello.Bdr)
		add(4, p.Hello.Seen...)
	case 2:
		flags := 0
		for _, is := range []bool{p.Dd.Init, p.Dd.More, p.Dd.Master} {
			flags *= 2
			if is {
				flags++
			}
		}
		add(1, 0, 0, 0, flags)
		add(4, p.Dd.Seq)
		heads(p.Dd.Heads)
	case 3:
		for _, k := range p.Wants {
			add(4, k.Kind, k.Id, k.Adv)
		}
	case 4:
		add(4, len(p.Lsas))
		for _, l := range p.Lsas {
			one, _ := lsa.Put(l)
			b = append(b, one...)
		}
	case 5:
		heads(p.Acks)
	}
	b[2], b[3] = byte(len(b)>>8), byte(len(b))
	return b
}

// slowGood tells whether an even number of bytes is good, by the words of chapter 2.
func slowGood(b []byte) bool {
	sum := 0
	for i := 0; i < len(b); i += 2 {
		sum += int(b[i])<<8 | int(b[i+1])
	}
	return len(b) >= 2 && sum > 0 && sum%65535 == 0
}

// put answers a packet's bytes, and ends the test if there are none.
func put(t *testing.T, p api.Packet) []byte {
	t.Helper()
	b, err := Put(p)
	if err != api.OK {
		t.Fatalf("Put(%v): %v", p, err)
	}
	return b
}

// P5.1: packets that are right, at all edges, and those that aren't.
func TestRight(t *testing.T) {
	for i, p := range rights() {
		if !Right(p) {
			t.Errorf("%d isn't right: %v", i, p)
		}
	}
	for i, p := range wrongs() {
		if Right(p) {
			t.Errorf("%d is right: %v", i, p)
		}
	}
}

// P5.1: each number of a packet is right just within its bounds.
func TestRightWithin(t *testing.T) {
	for _, c := range bounds() {
		for n := max(c.least, -300) - 3; n <= min(c.most, 300)+3; n++ {
			p := edit(c.of, func(p *api.Packet) { c.set(p, n) })
			if want := c.least <= n && n <= c.most; Right(p) != want {
				t.Errorf("%s is %d: right %v", c.name, n, !want)
			}
		}
	}
}

// P5.1: a Dd begins an exchange only with More, Master and no heads, and else has any of them.
func TestRightDd(t *testing.T) {
	for flags := range 8 {
		for heads := range 5 {
			p := dd(heads)
			p.Dd.Init, p.Dd.More, p.Dd.Master = flags&4 > 0, flags&2 > 0, flags&1 > 0
			want := heads <= 3
			if flags >= 4 {
				want = flags == 7 && heads == 0
			}
			if Right(p) != want {
				t.Errorf("flags %d, %d heads: right %v", flags, heads, !want)
			}
		}
	}
}

// P5.1: bytes as the chapter lays them out; the sums were worked out by hand.
func TestPutBytes(t *testing.T) {
	for _, c := range []struct {
		p    api.Packet
		want string
	}{
		// 0201 + 0028 + 0001 + 0001 + 0001 = 022c.
		{api.Packet{Kind: api.PHello, From: 1, Hello: api.Hello{Every: 1, Dead: 1}},
			"\x02\x01\x00\x28\x00\x00\x00\x01\x00\x00\x00\x00\xfd\xd3\x00\x00\x00\x00\x00\x00\x00\x00\x00\x00" +
				"\x00\x01\x00\x00\x00\x00\x00\x01\x00\x00\x00\x00\x00\x00\x00\x00"},
		// 0201 + 002c + 000f + 00ff + 003f + 003e + 000f = 03c7, and twice ffff, which folds away.
		{api.Packet{Kind: api.PHello, From: 15, Hello: api.Hello{Every: 65535, Dead: 65535, Prio: 255, Dr: 63, Bdr: 62, Seen: []int{15}}},
			"\x02\x01\x00\x2c\x00\x00\x00\x0f\x00\x00\x00\x00\xfc\x38\x00\x00\x00\x00\x00\x00\x00\x00\x00\x00" +
				"\xff\xff\x00\xff\x00\x00\xff\xff\x00\x00\x00\x3f\x00\x00\x00\x3e\x00\x00\x00\x0f"},
		// 0202 + 0020 + 0002 + 0007 + 0007 = 0232.
		{api.Packet{Kind: api.PDd, From: 2, Dd: api.Dd{Init: true, More: true, Master: true, Seq: 7}},
			"\x02\x02\x00\x20\x00\x00\x00\x02\x00\x00\x00\x00\xfd\xcd\x00\x00\x00\x00\x00\x00\x00\x00\x00\x00" +
				"\x00\x00\x00\x07\x00\x00\x00\x07"},
		// 0203 + 0024 + 0003 + 0002 + 1234 + 5678 + 0009 = 6ae1.
		{api.Packet{Kind: api.PWant, From: 3, Wants: []api.Key{{Kind: 2, Id: 0x12345678, Adv: 9}}},
			"\x02\x03\x00\x24\x00\x00\x00\x03\x00\x00\x00\x00\x95\x1e\x00\x00\x00\x00\x00\x00\x00\x00\x00\x00" +
				"\x00\x00\x00\x02\x12\x34\x56\x78\x00\x00\x00\x09"},
		// 0205 + 002c + 0005 + 003c + 0001 + 0004 + 0005 + 0102 + 0018 = 0396, and ffff, which folds away, and fffe, which is 1 less.
		{api.Packet{Kind: api.PAck, From: 5, Acks: []api.Head{{Age: 60, Kind: 1, Id: 4, Adv: 5, Seq: -2, Sum: 0x102, Long: 24}}},
			"\x02\x05\x00\x2c\x00\x00\x00\x05\x00\x00\x00\x00\xfc\x6a\x00\x00\x00\x00\x00\x00\x00\x00\x00\x00" +
				"\x00\x3c\x00\x01\x00\x00\x00\x04\x00\x00\x00\x05\xff\xff\xff\xfe\x01\x02\x00\x18"},
		// The description's sum is that of chapter 4: 12d2. 0204 + 0034 + 0004 + 0001 + 0001 + 0001 + 0001 + 12d2 + 0018 = 152a.
		{api.Packet{Kind: api.PUpdate, From: 4, Lsas: []api.Lsa{{Head: api.Head{Kind: 1, Id: 1, Adv: 1, Sum: 0x12d2, Long: 24}}}},
			"\x02\x04\x00\x34\x00\x00\x00\x04\x00\x00\x00\x00\xea\xd5\x00\x00\x00\x00\x00\x00\x00\x00\x00\x00" +
				"\x00\x00\x00\x01" +
				"\x00\x00\x00\x01\x00\x00\x00\x01\x00\x00\x00\x01\x00\x00\x00\x00\x12\xd2\x00\x18\x00\x00\x00\x00"},
	} {
		if b := put(t, c.p); string(b) != c.want {
			t.Errorf("Put(%v) = %x, want %x", c.p, b, c.want)
		}
	}
}

// P5.1: bytes of everything that is right.
func TestPut(t *testing.T) {
	for _, p := range rights() {
		b := put(t, p)
		if len(b) < 24 || len(b)%2 > 0 || !slowGood(b) {
			t.Fatalf("Put(%v) = %x isn't good", p, b)
		}
		without := slices.Clone(b)
		without[12], without[13] = 0, 0
		if want := slowBytes(p); !bytes.Equal(without, want) {
			t.Errorf("Put(%v) = %x, want %x", p, without, want)
		}
	}
	if n := len(put(t, hello())); n != 40 {
		t.Errorf("a Hello of nobody has %d bytes", n)
	}
}

// P5.1: what isn't right isn't put.
func TestPutRefuses(t *testing.T) {
	for i, p := range wrongs() {
		if b, err := Put(p); err != api.ErrArg || len(b) != 0 {
			t.Errorf("%d: Put(%v) = %x, %v", i, p, b, err)
		}
	}
}

// sameChanges answers changes of a packet that has something of everything.
func sameChanges() []func(*api.Packet) {
	return []func(*api.Packet){
		func(p *api.Packet) { p.Kind++ },
		func(p *api.Packet) { p.From++ },
		func(p *api.Packet) { p.Hello.Every++ },
		func(p *api.Packet) { p.Hello.Dead++ },
		func(p *api.Packet) { p.Hello.Prio++ },
		func(p *api.Packet) { p.Hello.Dr++ },
		func(p *api.Packet) { p.Hello.Bdr++ },
		func(p *api.Packet) { p.Hello.Seen[1]++ },
		func(p *api.Packet) { p.Hello.Seen = p.Hello.Seen[:1] },
		func(p *api.Packet) { slices.Reverse(p.Hello.Seen) },
		func(p *api.Packet) { p.Dd.Init = !p.Dd.Init },
		func(p *api.Packet) { p.Dd.More = !p.Dd.More },
		func(p *api.Packet) { p.Dd.Master = !p.Dd.Master },
		func(p *api.Packet) { p.Dd.Seq++ },
		func(p *api.Packet) { p.Dd.Heads[1].Long++ },
		func(p *api.Packet) { p.Dd.Heads[0].Age++ },
		func(p *api.Packet) { p.Dd.Heads = nil },
		func(p *api.Packet) { slices.Reverse(p.Dd.Heads) },
		func(p *api.Packet) { p.Wants[0].Kind++ },
		func(p *api.Packet) { p.Wants[1].Id++ },
		func(p *api.Packet) { p.Wants[1].Adv++ },
		func(p *api.Packet) { p.Wants = p.Wants[:1] },
		func(p *api.Packet) { slices.Reverse(p.Wants) },
		func(p *api.Packet) { p.Lsas[0].Head.Age++ },
		func(p *api.Packet) { p.Lsas[1].Head.Sum++ },
		func(p *api.Packet) { p.Lsas[0].Members[0]++ },
		func(p *api.Packet) { p.Lsas[1].Links[0].Cost++ },
		func(p *api.Packet) { p.Lsas = p.Lsas[:1] },
		func(p *api.Packet) { slices.Reverse(p.Lsas) },
		func(p *api.Packet) { p.Acks[0].Sum++ },
		func(p *api.Packet) { p.Acks[1].Seq++ },
		func(p *api.Packet) { p.Acks = append(p.Acks, api.Head{}) },
		func(p *api.Packet) { slices.Reverse(p.Acks) },
	}
}

// P5.2: Same holds all against all, of packets that are right and of those that aren't.
func TestSame(t *testing.T) {
	full := api.Packet{Kind: 9, From: 20, Hello: hello(2, 1).Hello, Dd: dd(2).Dd, Wants: want(2).Wants, Lsas: update(2).Lsas, Acks: ack(2).Acks}
	if !Same(full, deep(full)) {
		t.Error("alike, and not the same")
	}
	for i, change := range sameChanges() {
		other := edit(full, change)
		if Same(full, other) || Same(other, full) {
			t.Errorf("change %d isn't seen", i)
		}
		if !Same(other, deep(other)) {
			t.Errorf("change %d isn't the same as itself", i)
		}
	}
	all := ordinary()
	for i, a := range all {
		for j, b := range all {
			if Same(a, b) != (i == j) {
				t.Errorf("%d and %d: %v", i, j, i != j)
			}
		}
	}
	// nil and empty lists are one.
	empty := api.Packet{Wants: []api.Key{}, Lsas: []api.Lsa{}, Acks: []api.Head{}}
	empty.Hello.Seen, empty.Dd.Heads = []int{}, []api.Head{}
	if !Same(api.Packet{}, empty) || !Same(empty, api.Packet{}) {
		t.Error("an empty list isn't as none")
	}
	hollow := edit(update(2), func(p *api.Packet) { p.Lsas[0].Links = []api.Link{} })
	if !Same(update(2), hollow) || !Same(hollow, update(2)) {
		t.Error("an empty list of a description isn't as none")
	}
}

// roomy answers a packet whose lists have spare room, and a question whether any of their memory changed.
func roomy(p api.Packet) (api.Packet, func() bool) {
	out := p
	var seen []int
	var heads, acks []api.Head
	var wants []api.Key
	var lsas []api.Lsa
	out.Hello.Seen, seen = probe.Roomy(p.Hello.Seen, 5, 13)
	out.Dd.Heads, heads = probe.Roomy(p.Dd.Heads, 5, api.Head{Age: 9})
	out.Wants, wants = probe.Roomy(p.Wants, 5, api.Key{Id: 9})
	out.Acks, acks = probe.Roomy(p.Acks, 5, api.Head{Age: 8})
	out.Lsas, lsas = probe.Roomy(p.Lsas, 5, someLsa(1))
	var links [][]api.Link
	var members [][]int
	for i, l := range lsas {
		var link []api.Link
		var member []int
		lsas[i].Links, link = probe.Roomy(l.Links, 5, api.Link{Cost: 9})
		lsas[i].Members, member = probe.Roomy(l.Members, 5, 14)
		links, members = append(links, link), append(members, member)
	}
	wasSeen, wasHeads, wasWants, wasAcks := slices.Clone(seen), slices.Clone(heads), slices.Clone(wants), slices.Clone(acks)
	wasLsas := deep(api.Packet{Lsas: lsas}).Lsas
	var wasLinks [][]api.Link
	var wasMembers [][]int
	for i := range links {
		wasLinks, wasMembers = append(wasLinks, slices.Clone(links[i])), append(wasMembers, slices.Clone(members[i]))
	}
	return out, func() bool {
		return slices.Equal(seen, wasSeen) && slices.Equal(heads, wasHeads) && slices.Equal(wants, wasWants) && slices.Equal(acks, wasAcks) &&
			slices.EqualFunc(lsas, wasLsas, lsa.Same) &&
			slices.EqualFunc(links, wasLinks, slices.Equal) && slices.EqualFunc(members, wasMembers, slices.Equal)
	}
}

// R4: packets that are handed in stay as they were, spare room included, right or not, whatever is done to what was answered.
func TestHandsOffPackets(t *testing.T) {
	for _, p := range append(ordinary(), dd(5), want(5), ack(5), update(5), hello(3, 2, 1), edit(hello(1), func(p *api.Packet) { p.Lsas, p.Acks = update(1).Lsas, someHeads(1) })) {
		given, kept := roomy(p)
		Right(given)
		Same(given, given)
		b, _ := Put(given)
		again, _ := Put(given)
		was := string(again)
		probe.Scribble(b, 0x5A)
		if !kept() {
			t.Errorf("%v changed", p)
		}
		if string(again) != was {
			t.Errorf("two answers share memory: %x", again)
		}
	}
}
