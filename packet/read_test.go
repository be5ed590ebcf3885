package packet

import (
	"bytes"
	"slices"
	"testing"

	"syndic/api"
	"syndic/fletch"
	"syndic/ipsum"
	"syndic/lsa"
	"syndic/probe"
)

// refit answers b with its sum such that it is good.
func refit(t *testing.T, b []byte) []byte {
	t.Helper()
	out, is := ipsum.Fill(b, 12)
	if !is {
		t.Fatalf("no sum in %x", b)
	}
	return out
}

// relong answers b with its length set, and its sum fitted.
func relong(t *testing.T, b []byte, long int) []byte {
	t.Helper()
	b = slices.Clone(b)
	b[2], b[3] = byte(long>>8), byte(long)
	return refit(t, b)
}

// changed answers b with some bytes from a place on, and its sum fitted.
func changed(t *testing.T, b []byte, at int, with ...byte) []byte {
	t.Helper()
	b = slices.Clone(b)
	copy(b[at:], with)
	return refit(t, b)
}

// framed answers the bytes of a packet of some kind, whatever stands behind its head; behind an odd length there is pad.
func framed(t *testing.T, kind int, body []byte, pad byte) []byte {
	t.Helper()
	b := slices.Concat([]byte{2, byte(kind), 0, 0, 0, 0, 0, 7}, make([]byte, 16), body)
	long := len(b)
	if long%2 == 1 {
		b = append(b, pad)
	}
	return relong(t, b, long)
}

// updateOf answers the bytes of a PUpdate that tells so many descriptions, and has these bytes of them.
func updateOf(t *testing.T, many int, lsas ...[]byte) []byte {
	t.Helper()
	return framed(t, api.PUpdate, slices.Concat([]byte{byte(many >> 24), byte(many >> 16), byte(many >> 8), byte(many)}, slices.Concat(lsas...)), 0)
}

// lsaBytes answers the bytes of one of several descriptions.
func lsaBytes(t *testing.T, i int) []byte {
	t.Helper()
	b, err := lsa.Put(someLsa(i))
	if err != api.OK {
		t.Fatal(err)
	}
	return b
}

// refused holds what Get answers against an error, beside which there is nothing.
func refused(t *testing.T, what string, b []byte, want api.Errno) {
	t.Helper()
	p, err := Get(b)
	if err != want {
		t.Errorf("%s: Get(%x): error %d, want %d", what, b, int(err), int(want))
	}
	if !Same(p, api.Packet{}) {
		t.Errorf("%s: Get(%x): %v beside an error", what, b, p)
	}
}

// P5.3: what is put is got.
func TestPutAndGet(t *testing.T) {
	for _, p := range rights() {
		b := put(t, p)
		if got, err := Get(b); err != api.OK || !Same(got, p) {
			t.Errorf("Get(%x) = %v, %v, want %v", b, got, err, p)
		}
	}
}

// P5.1: bytes are good by a sum of ffff as well as by the 0 that is put; two bytes differ then.
func TestGetOtherSum(t *testing.T) {
	p := first()
	p.Dd.Seq = 0
	b := put(t, p)
	p.Dd.Seq = int(b[12])<<8 | int(b[13])
	b = put(t, p)
	if b[12] != 0 || b[13] != 0 {
		t.Fatalf("the sum of %x isn't 0", b)
	}
	b[12], b[13] = 0xff, 0xff
	if got, err := Get(b); err != api.OK || !Same(got, p) {
		t.Errorf("Get(%x) = %v, %v, want %v", b, got, err, p)
	}
}

// P5.3: bytes of which one is changed, to whatever, aren't got.
func TestOneByteChanged(t *testing.T) {
	for _, p := range ordinary() {
		b := put(t, p)
		for i := range b {
			was := b[i]
			for by := 1; by < 256; by++ {
				b[i] = was + byte(by)
				refused(t, "one byte changed", b, api.ErrSum)
			}
			b[i] = was
		}
	}
}

// P5.1: bytes worked out one by one are got, in each field at its edges.
func TestGetBytes(t *testing.T) {
	for _, p := range rights() {
		if got, err := Get(refit(t, slowBytes(p))); err != api.OK || !Same(got, p) {
			t.Errorf("%v, %v, want %v", got, err, p)
		}
	}
}

// P5.1: a packet that isn't right isn't got from its bytes, where they can tell it.
func TestGetWrong(t *testing.T) {
	var all []api.Packet
	for _, c := range bounds() {
		// A Hello of another kind is that kind's packet.
		if c.name == "a Hello's Kind" {
			continue
		}
		// What is beyond 0 or beyond all bytes of a number is told as another one.
		if c.least > 0 {
			all = append(all, edit(c.of, func(p *api.Packet) { c.set(p, c.least-1) }))
		}
		if c.most < 255 || c.most == 65535 && c.name == "Dead" {
			all = append(all, edit(c.of, func(p *api.Packet) { c.set(p, c.most+1) }))
		}
	}
	for _, kind := range []int{0, 6, 255} {
		all = append(all, edit(hello(), func(p *api.Packet) { p.Kind = kind }))
	}
	all = append(all,
		hello(2, 2), hello(3, 2), hello(1, 3, 2, 4), hello(0, 1), hello(256), hello(1<<24+1),
		dd(4), want(0), want(4), update(0), update(4), ack(0), ack(4), dd(1000), want(1000), ack(1000),
		edit(first(), func(p *api.Packet) { p.Dd.More = false }),
		edit(first(), func(p *api.Packet) { p.Dd.Master = false }),
		edit(first(), func(p *api.Packet) { p.Dd.Heads = someHeads(1) }),
		edit(dd(1), func(p *api.Packet) { p.Dd.Heads[0].Seq = -(1 << 31) }),
		edit(ack(1), func(p *api.Packet) { p.Acks[0].Seq = -(1 << 31) }),
		edit(want(1), func(p *api.Packet) { p.Wants[0].Kind = 1<<8 + 1 }),
		edit(want(1), func(p *api.Packet) { p.Wants[0].Adv = 1<<24 + 1 }),
		edit(hello(), func(p *api.Packet) { p.From = 1<<8 + 1 }),
		edit(hello(), func(p *api.Packet) { p.Hello.Dead = 1<<16 + 1 }),
		edit(hello(), func(p *api.Packet) { p.Hello.Dr = 1 << 8 }),
		edit(hello(), func(p *api.Packet) { p.Hello.Bdr = 1 << 31 }),
	)
	for _, p := range all {
		refused(t, "not right", refit(t, slowBytes(p)), api.ErrForm)
	}
}

// P5.1: fewer than 24 bytes are an error, whatever else is wrong, and spare room isn't read.
func TestGetEnds(t *testing.T) {
	refused(t, "nil", nil, api.ErrEnd)
	for _, p := range []api.Packet{hello(1, 2), dd(1), want(1), update(1), ack(1)} {
		b := put(t, p)
		for n := range 24 {
			refused(t, "cut", b[:n], api.ErrEnd)
			refused(t, "cut, without spare room", slices.Clone(b[:n]), api.ErrEnd)
			refused(t, "spoilt", bytes.Repeat([]byte{0xff}, n), api.ErrEnd)
		}
		// A good sum doesn't help.
		refused(t, "good", refit(t, b[:22]), api.ErrEnd)
		refused(t, "24 bytes", b[:24], api.ErrSum)
		refused(t, "24 bytes, good", refit(t, b[:24]), api.ErrForm)
		refused(t, "24 bytes, good, of that length", relong(t, b[:24], 24), api.ErrForm)
		refused(t, "24 bytes, good, of length 23", relong(t, b[:24], 23), api.ErrForm)
	}
}

// P5.1: the sum is asked ahead of all that is in the bytes; an odd number of bytes isn't good.
func TestGetSum(t *testing.T) {
	for _, p := range []api.Packet{hello(1, 2), dd(1), want(1), update(1), ack(1)} {
		b := put(t, p)
		for n := 24; n < len(b); n++ {
			if b[n-1] != 0 || n%2 == 1 {
				refused(t, "cut", b[:n], api.ErrSum)
			}
		}
		for n := 25; n < 40; n += 2 {
			refused(t, "odd", make([]byte, n), api.ErrSum)
			refused(t, "odd, all set", bytes.Repeat([]byte{0xff}, n), api.ErrSum)
		}
		refused(t, "a 0 behind, odd", slices.Concat(b, []byte{0}), api.ErrSum)
		refused(t, "a 1 behind, odd", slices.Concat(b, []byte{1}), api.ErrSum)
		for name, change := range map[string]func(b []byte){
			"version":           func(b []byte) { b[0] = 3 },
			"kind":              func(b []byte) { b[1] = 9 },
			"length":            func(b []byte) { b[3]++ },
			"From":              func(b []byte) { b[7] = 77 },
			"area":              func(b []byte) { b[8] = 1 },
			"the sum":           func(b []byte) { b[12] ^= 0x40 },
			"all but the sum":   func(b []byte) { copy(b, "\x07\x07\x07\x07") },
			"the last one":      func(b []byte) { b[len(b)-1]++ },
			"sum and last byte": func(b []byte) { b[13]++; b[len(b)-1]++ },
		} {
			wrong := slices.Clone(b)
			change(wrong)
			refused(t, name, wrong, api.ErrSum)
		}
	}
	refused(t, "zeros", make([]byte, 24), api.ErrSum)
	refused(t, "more zeros", make([]byte, 100), api.ErrSum)
}

// P5.1: another version, kind or length is misformed.
func TestGetFrame(t *testing.T) {
	for _, p := range []api.Packet{hello(1, 2), dd(1), want(1), update(1), ack(1)} {
		b := put(t, p)
		for n := range 256 {
			if n != 2 {
				refused(t, "version", changed(t, b, 0, byte(n)), api.ErrForm)
			}
			if n < 1 || n > 5 {
				refused(t, "kind", changed(t, b, 1, byte(n)), api.ErrForm)
			}
		}
		for long := range 300 {
			if long != len(b) {
				refused(t, "length", relong(t, b, long), api.ErrForm)
			}
		}
		for _, long := range []int{len(b) + 256, len(b) | 0x8000, 65534, 65535} {
			refused(t, "a great length", relong(t, b, long), api.ErrForm)
		}
	}
}

// P5.1: behind the length nothing follows but the one 0 behind an odd one.
func TestGetBehindLength(t *testing.T) {
	for _, p := range []api.Packet{hello(1, 2), dd(1), want(1), update(1), ack(1)} {
		b := put(t, p)
		for n := 2; n <= 40; n += 2 {
			refused(t, "zeros behind", refit(t, slices.Concat(b, make([]byte, n))), api.ErrForm)
			refused(t, "bytes behind", refit(t, slices.Concat(b, probe.Mixed(n, n))), api.ErrForm)
			refused(t, "zeros behind, as long", relong(t, slices.Concat(b, make([]byte, n)), len(b)+1), api.ErrForm)
		}
		// An odd length with its 0 is no right packet of any kind.
		refused(t, "an odd length", relong(t, slices.Concat(b, []byte{0, 0}), len(b)+1), api.ErrForm)
		refused(t, "an odd length, and a 1", relong(t, slices.Concat(b, []byte{0, 1}), len(b)+1), api.ErrForm)
	}
}

// P5.1: the 0 behind an odd length isn't counted, and another byte there is misformed ahead of what a description has.
func TestGetOddUpdate(t *testing.T) {
	good, bad := lsaBytes(t, 0), lsaBytes(t, 1)
	bad[16]++
	many := []byte{0, 0, 0, 2}
	body := slices.Concat(many, good, bad, []byte{9})
	refused(t, "a 0 behind", framed(t, api.PUpdate, body, 0), api.ErrSum)
	for pad := 1; pad < 256; pad++ {
		refused(t, "another one behind", framed(t, api.PUpdate, body, byte(pad)), api.ErrForm)
	}
	// The description ends one byte ahead of what it tells: the 0 behind the length isn't its last one.
	cut := lsaBytes(t, 0)
	cut = cut[:len(cut)-1]
	router, err := lsa.Put(api.Lsa{Head: api.Head{Kind: 1, Id: 1, Adv: 1}})
	if err != api.OK || router[23] != 0 {
		t.Fatal("no router whose last byte is 0")
	}
	refused(t, "a byte is missing", framed(t, api.PUpdate, slices.Concat(many, good, cut), 0), api.ErrEnd)
	refused(t, "a 0 is missing", framed(t, api.PUpdate, slices.Concat(many, good, router[:23]), 0), api.ErrEnd)
	refused(t, "a 0 is missing, but for another one", framed(t, api.PUpdate, slices.Concat(many, good, router[:23]), 1), api.ErrForm)
}

// P5.1: each byte that must be 0.
func TestGetZeros(t *testing.T) {
	for _, p := range []api.Packet{hello(1, 2), first(), dd(1), want(1), update(1), ack(1)} {
		b := put(t, p)
		zeros := []int{8, 9, 10, 11, 14, 15, 16, 17, 18, 19, 20, 21, 22, 23}
		switch p.Kind {
		case api.PHello:
			zeros = append(zeros, 26)
		case api.PDd:
			zeros = append(zeros, 24, 25, 26)
		}
		for _, at := range zeros {
			for _, x := range []byte{1, 2, 16, 128, 255} {
				refused(t, "not 0", changed(t, b, at, x), api.ErrForm)
			}
		}
	}
	// The byte ahead of a head's kind, of a Dd and of an acknowledgment.
	refused(t, "a Dd's head", changed(t, put(t, dd(2)), 24+8+20+2, 1), api.ErrForm)
	refused(t, "an acknowledged head", changed(t, put(t, ack(2)), 24+2, 1), api.ErrForm)
	// What stands behind a bad head doesn't mend it.
	refused(t, "the first of three", changed(t, put(t, ack(3)), 24, 0, 61), api.ErrForm)
	refused(t, "the second of three", changed(t, put(t, dd(3)), 24+8+20+8, 0, 0, 0, 16), api.ErrForm)
}

// P5.1: of the byte that tells Init, More and Master all that is above these three must be 0.
func TestGetFlags(t *testing.T) {
	for flags := range 256 {
		b := changed(t, put(t, dd(0)), 27, byte(flags))
		if flags >= 4 && flags != 7 {
			refused(t, "flags", b, api.ErrForm)
			continue
		}
		p, err := Get(b)
		if err != api.OK || p.Dd.Init != (flags == 7) || p.Dd.More != (flags&2 != 0) || p.Dd.Master != (flags&1 != 0) {
			t.Errorf("flags %d: %v, %v", flags, p.Dd, err)
		}
	}
}

// P5.1: what a kind has may not end in the middle of something.
func TestGetCut(t *testing.T) {
	for _, p := range []api.Packet{hello(1, 2), dd(0), dd(3), want(1), want(3), ack(1), ack(3)} {
		body := slowBytes(p)[24:]
		size := map[int]int{api.PHello: 4, api.PDd: 20, api.PWant: 12, api.PAck: 20}[p.Kind]
		fixed := map[int]int{api.PHello: 16, api.PDd: 8}[p.Kind]
		for n := range body {
			b := framed(t, p.Kind, body[:n], 0)
			least := fixed
			if fixed == 0 {
				least = size
			}
			if n < least || (n-fixed)%size != 0 {
				refused(t, "cut", b, api.ErrForm)
			} else if _, err := Get(b); err != api.OK {
				t.Errorf("Get(%x): %v", b, err)
			}
		}
	}
	for n := range 4 {
		refused(t, "an update without its number", framed(t, api.PUpdate, []byte{0, 0, 0}[:min(n, 3)], 0), api.ErrForm)
		refused(t, "an update with a part of it", framed(t, api.PUpdate, []byte{1, 1, 1}[:min(n, 3)], 0), api.ErrForm)
	}
}

// P5.1: as many descriptions as are told must be there: the first one that isn't is at its end, and of those that weren't told bytes are left over.
func TestGetHowMany(t *testing.T) {
	var l [5][]byte
	for i := range l {
		l[i] = lsaBytes(t, i)
	}
	for there := range l {
		for _, many := range []int{0, 1, 2, 3, 4, 5, 6, 256, 1 << 16, 1 << 24, 1<<32 - 1} {
			b := updateOf(t, many, l[:there]...)
			switch {
			case many > there:
				refused(t, "more are told", b, api.ErrEnd)
			case many < there, there > 3, there == 0:
				refused(t, "fewer are told, or too many, or none", b, api.ErrForm)
			default:
				if p, err := Get(b); err != api.OK || len(p.Lsas) != there {
					t.Errorf("%d of %d: %v, %v", many, there, p, err)
				}
			}
		}
	}
	for n := 1; n < 20; n++ {
		refused(t, "bytes left over", updateOf(t, 2, l[0], l[1], make([]byte, n)), api.ErrForm)
	}
}

// whole answers a description's bytes with some of them changed, and its own sum fitted.
func whole(t *testing.T, b []byte, at int, with ...byte) []byte {
	t.Helper()
	b = slices.Clone(b)
	copy(b[at:], with)
	out, is := fletch.Fill(b[2:], 14)
	if !is {
		t.Fatalf("no sum in %x", b)
	}
	return slices.Concat(b[:2], out)
}

// badLsas answers descriptions' bytes that aren't got, by the error that each one has; all of them tell their own length.
func badLsas(t *testing.T) map[api.Errno][][]byte {
	b := lsaBytes(t, 1)
	spoilt := slices.Clone(b)
	spoilt[16]++
	short := slices.Clone(b)
	short[18], short[19] = 0, 19
	return map[api.Errno][][]byte{
		api.ErrSum:  {spoilt},
		api.ErrForm: {short, whole(t, b, 2, 1), whole(t, b, 3, 3), whole(t, b, 11, 9), whole(t, b, 0, 0, 61), whole(t, b, 33, 1)},
	}
}

// P5.1: the errors of a PUpdate's descriptions, wherever one stands.
func TestGetLsaErrors(t *testing.T) {
	good := lsaBytes(t, 0)
	for want, all := range badLsas(t) {
		for _, bad := range all {
			refused(t, "the only one", updateOf(t, 1, bad), want)
			refused(t, "the first one", updateOf(t, 2, bad, good), want)
			refused(t, "the last one", updateOf(t, 3, good, good, bad), want)
		}
	}
	// It tells more than there is.
	long := slices.Clone(good)
	long[19]++
	refused(t, "longer, the last one", updateOf(t, 2, good, long), api.ErrEnd)
	refused(t, "longer than all", updateOf(t, 2, changedLong(good, 65535), good), api.ErrEnd)
	for n := range good {
		refused(t, "cut", updateOf(t, 1, good[:n]), api.ErrEnd)
		refused(t, "cut, the third one", updateOf(t, 3, good, good, good[:n]), api.ErrEnd)
	}
	// It tells more, which is there: the next one's bytes, with which it isn't whole.
	refused(t, "longer, the first one", updateOf(t, 2, long, good), api.ErrSum)
}

// changedLong answers a description's bytes with another length.
func changedLong(b []byte, long int) []byte {
	b = slices.Clone(b)
	b[18], b[19] = byte(long>>8), byte(long)
	return b
}

// P5.1: of several errors of descriptions the first one's is told, and it goes ahead of all that is misformed otherwise.
func TestGetErrorsInOrder(t *testing.T) {
	good := lsaBytes(t, 0)
	bad := lsaBytes(t, 1)
	bad[16]++
	form := whole(t, lsaBytes(t, 1), 3, 3)
	refused(t, "sum, then form", updateOf(t, 2, bad, form), api.ErrSum)
	refused(t, "form, then sum", updateOf(t, 2, form, bad), api.ErrForm)
	refused(t, "sum, then end", updateOf(t, 3, good, bad, good[:7]), api.ErrSum)
	refused(t, "sum, then none", updateOf(t, 3, good, bad), api.ErrSum)
	refused(t, "sum, and left over", updateOf(t, 2, good, bad, good), api.ErrSum)
	refused(t, "left over, and not told", updateOf(t, 1, good, bad), api.ErrForm)
	refused(t, "none told, and a bad one", updateOf(t, 0, bad), api.ErrForm)
	refused(t, "too many, of which the last one is bad", updateOf(t, 4, good, good, good, bad), api.ErrSum)
	one := updateOf(t, 2, good, bad)
	for _, c := range []struct {
		name string
		b    []byte
		want api.Errno
	}{
		{"From", changed(t, one, 7, 16), api.ErrSum},
		{"From 0", changed(t, one, 7, 0), api.ErrSum},
		{"a byte that isn't 0", changed(t, one, 9, 1), api.ErrSum},
		{"another one", changed(t, one, 23, 1), api.ErrSum},
		{"version", changed(t, one, 0, 1), api.ErrForm},
		{"another kind", changed(t, one, 1, 5), api.ErrForm},
		{"no kind", changed(t, one, 1, 6), api.ErrForm},
		{"length", relong(t, one, len(one)-2), api.ErrForm},
		{"length beyond", relong(t, one, len(one)+2), api.ErrForm},
		{"a 0 within the length", relong(t, one, len(one)-1), api.ErrForm},
		{"behind the length", refit(t, slices.Concat(one, []byte{0, 0})), api.ErrForm},
	} {
		refused(t, c.name, c.b, c.want)
	}
	one[12]++
	refused(t, "the packet's own sum", one, api.ErrSum)
}

// P5.1: a description whose bytes are whole by a sum that isn't its own one isn't sealed, and so isn't got.
func TestGetNotSealed(t *testing.T) {
	tried := 0
	for seq := range 3000 {
		b, err := lsa.Put(api.Lsa{Head: api.Head{Kind: 1, Id: 1, Adv: 1, Seq: seq}})
		if err != api.OK {
			t.Fatal(err)
		}
		for at := 16; at < 18; at++ {
			if b[at] != 0 {
				continue
			}
			// A 255 counts as a 0 modulo 255.
			other := slices.Clone(b)
			other[at] = 255
			if l, err := lsa.Get(other); err != api.OK || lsa.Same(l, lsa.Seal(l)) {
				t.Fatalf("%x isn't whole, or is sealed", other)
			}
			refused(t, "not sealed", updateOf(t, 1, other), api.ErrForm)
			refused(t, "not sealed, the second one", updateOf(t, 2, b, other), api.ErrForm)
			tried++
		}
	}
	if tried < 5 {
		t.Errorf("only %d were tried", tried)
	}
}

// R4: Get leaves the bytes and their spare room as they were, and what is got is memory of its own.
func TestGetKeepsItsHandsOff(t *testing.T) {
	for _, p := range ordinary() {
		b, all := probe.Roomy(put(t, p), 40, 0xEE)
		was := string(all)
		one, err := Get(b)
		two, again := Get(b)
		if err != api.OK || again != api.OK || string(all) != was {
			t.Fatalf("Get: %v, %v, bytes %x", err, again, all)
		}
		probe.Scribble(one.Hello.Seen, -1)
		probe.Scribble(one.Dd.Heads, api.Head{Age: -1})
		probe.Scribble(one.Wants, api.Key{Id: -1})
		probe.Scribble(one.Acks, api.Head{Age: -2})
		for _, l := range one.Lsas {
			probe.ScribbleLsa(l)
		}
		probe.Scribble(one.Lsas, api.Lsa{})
		probe.Scribble(all, 0x5A)
		if !Same(two, p) {
			t.Errorf("what is got shares memory: %v, want %v", two, p)
		}
	}
	for _, wrong := range [][]byte{nil, []byte("short"), make([]byte, 30), changed(t, put(t, update(2)), 27, 3), changed(t, put(t, hello(1)), 7, 99)} {
		b, all := probe.Roomy(wrong, 40, 0xEE)
		was := string(all)
		if Get(b); string(all) != was {
			t.Errorf("bytes that weren't got changed: %x", all)
		}
	}
}

// nearly answers bytes that nearly tell a packet: some of one that is right are changed, and its sum is fitted, mostly.
func nearly(t *testing.T, seed int) []byte {
	m := probe.Mixed(12, seed)
	all := ordinary()
	b := put(t, all[seed%len(all)])
	if m[0]%4 == 0 {
		b = b[:max(0, len(b)-int(m[1]%9))]
	}
	if m[0]%16 > 12 {
		b = slices.Concat(b, probe.Mixed(int(m[1]%30), seed))
	}
	for i := range int(m[2] % 3) {
		if len(b) > 0 {
			b[int(m[3+i])%len(b)] = m[5+i] % 20
		}
	}
	if m[8]%8 > 0 && len(b) >= 24 && len(b)%2 == 0 {
		if m[9]%3 > 0 {
			b[2], b[3] = 0, byte(len(b))-m[10]%8/7
		}
		b = refit(t, b)
	}
	return b
}

// R1, R5: whatever the bytes, Get ends; what is got is right, and is put as the same bytes again.
func TestAnyBytes(t *testing.T) {
	var got, not int
	for seed := range 30000 {
		Get(probe.Mixed(seed%100, seed))
		b := nearly(t, seed)
		p, err := Get(b)
		if err != api.OK {
			refused(t, "nearly", b, err)
			not++
			continue
		}
		got++
		if again := put(t, p); !Right(p) || !bytes.Equal(again, b) {
			t.Errorf("Get(%x) = %v, put as %x", b, p, again)
		}
	}
	if got < 1000 || not < 1000 {
		t.Errorf("%d were got, %d weren't", got, not)
	}
}

// R1: bytes as many as a length can tell, and more, are read to their end.
func TestGetLong(t *testing.T) {
	for kind := range 7 {
		for _, n := range []int{65534 - 24, 65535 - 24} {
			refused(t, "long", framed(t, kind, make([]byte, n), 0), api.ErrForm)
		}
		refused(t, "longer than a length can tell", relong(t, slices.Concat([]byte{2, byte(kind)}, make([]byte, 65536+62)), 64), api.ErrForm)
	}
	// All descriptions that fit, one by one.
	one := lsaBytes(t, 0)
	refused(t, "many descriptions", updateOf(t, 2000, bytes.Repeat(one, 2000)), api.ErrForm)
	refused(t, "one fewer", updateOf(t, 2000, bytes.Repeat(one, 1999)), api.ErrEnd)
}
