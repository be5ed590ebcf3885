package lsdb

import (
	"math"
	"slices"
	"testing"

	"syndic/api"
	"syndic/lsa"
	"syndic/probe"
)

// router answers a router's description of this age, with so many links.
func router(id, age, links int) api.Lsa {
	l := api.Lsa{Head: api.Head{Age: age, Kind: api.Router, Id: id, Adv: id, Seq: 4}}
	for i := range links {
		l.Links = append(l.Links, api.Link{Kind: api.Transit + i%2, Id: 16*i + 1, Data: 16*i + id, Cost: 3 + i})
	}
	return l
}

// network answers a network's description of this age.
func network(id, adv, age int, members ...int) api.Lsa {
	return api.Lsa{Head: api.Head{Age: age, Kind: api.Network, Id: id, Adv: adv, Seq: -2}, Members: members}
}

// many answers so many descriptions of keys of their own, in the order of keys.
func many(n int) []api.Lsa {
	var out []api.Lsa
	for i := range n {
		if i < api.MaxId {
			out = append(out, router(1+i, i%50, i%5))
		} else {
			out = append(out, network(i-api.MaxId, 1+i%api.MaxId, i%50, 1, 2+i%9))
		}
	}
	return out
}

// wrongs answers descriptions that aren't right, of the keys of many(40), and of none.
func wrongs() []api.Lsa {
	return []api.Lsa{
		{},
		router(1, 61, 0), router(1, -1, 0), router(2, 3, 5), router(16, 0, 0), router(0, 0, 0),
		network(0, 1, 0), network(0, 1, 0, 2, 2), network(0, 1, 0, 0, 2), network(64, 1, 0, 1), network(3, 16, 0, 1),
		{Head: api.Head{Kind: api.Router, Id: 1, Adv: 2}},
		{Head: api.Head{Kind: api.Router, Id: 1, Adv: 1, Seq: api.FirstSeq - 1}},
		{Head: api.Head{Kind: api.Router, Id: 1, Adv: 1}, Members: []int{1}},
		{Head: api.Head{Kind: 3, Id: 1, Adv: 1}},
		{Head: api.Head{Age: math.MinInt64, Kind: math.MaxInt64, Id: math.MinInt64, Adv: math.MaxInt64, Seq: math.MinInt64}},
	}
}

// rooms answers what New is asked for, and how much room that is to be.
func rooms() map[int]int {
	return map[int]int{
		math.MinInt64: 1, -40: 1, -1: 1, 0: 1, 1: 1, 2: 2, 3: 3, 39: 39,
		40: 40, 41: 40, 80: 40, 1<<32 + 1: 40, math.MaxInt64: 40,
	}
}

// key answers a description's key.
func key(l api.Lsa) api.Key { return api.KeyOf(l.Head) }

// aged answers a description of another age.
func aged(l api.Lsa, age int) api.Lsa {
	l.Head.Age = age
	return l
}

// put puts descriptions into a database, each of which it is to take.
func put(t *testing.T, d *Db, list ...api.Lsa) {
	t.Helper()
	for _, l := range list {
		if err := d.Put(l); err != api.OK {
			t.Fatalf("Put(%v): %d", l, int(err))
		}
	}
}

// filled answers a database of this room with these descriptions.
func filled(t *testing.T, room int, list ...api.Lsa) *Db {
	t.Helper()
	d := New(room)
	put(t, d, list...)
	return d
}

// refused puts a description into a database, which is to answer this error, and to stay as it is.
func refused(t *testing.T, d *Db, l api.Lsa, want api.Errno) {
	t.Helper()
	was := d.All()
	if err := d.Put(l); err != want {
		t.Errorf("Put(%v): %d, want %d", l, int(err), int(want))
	}
	holds(t, d, was...)
}

// holds holds what a database answers by Len, All and Get against just these descriptions, sealed, in the order of keys.
func holds(t *testing.T, d *Db, want ...api.Lsa) {
	t.Helper()
	if n := d.Len(); n != len(want) {
		t.Errorf("Len: %d, want %d", n, len(want))
	}
	all := d.All()
	if len(all) != len(want) {
		t.Errorf("All: %v, want %v", all, want)
		return
	}
	for i, l := range want {
		if !lsa.Same(all[i], lsa.Seal(l)) {
			t.Errorf("All: %v at %d, want %v", all[i], i, lsa.Seal(l))
		}
		if got, is := d.Get(key(l)); !is || !lsa.Same(got, lsa.Seal(l)) {
			t.Errorf("Get(%v): %v, %v, want %v", key(l), got, is, lsa.Seal(l))
		}
	}
}

// lacks holds that a database has nothing of these keys, and that dropping them changes nothing.
func lacks(t *testing.T, d *Db, keys ...api.Key) {
	t.Helper()
	was := d.All()
	for _, k := range keys {
		if l, is := d.Get(k); is || !lsa.Same(l, api.Lsa{}) {
			t.Errorf("Get(%v): %v, %v of nothing", k, l, is)
		}
		if d.Drop(k) {
			t.Errorf("Drop(%v) of nothing", k)
		}
	}
	holds(t, d, was...)
}

// ticks holds the keys that a tick tells against these.
func ticks(t *testing.T, d *Db, want ...api.Key) {
	t.Helper()
	if got := d.Tick(); !slices.Equal(got, want) {
		t.Errorf("Tick: %v, want %v", got, want)
	}
}

// P7.1: a database of nothing, of whatever room.
func TestNewHasNothing(t *testing.T) {
	for room := range rooms() {
		d := New(room)
		holds(t, d)
		lacks(t, d, key(router(1, 0, 0)), key(network(0, 1, 0, 1)), api.Key{})
		ticks(t, d)
	}
}

// P7.1: there is room for so many descriptions, held within 1 to 40, and for no more of other keys.
func TestRoom(t *testing.T) {
	list := many(45)
	for room, most := range rooms() {
		d := New(room)
		for i, l := range list {
			if i < most {
				put(t, d, l)
				holds(t, d, list[:i+1]...)
			} else {
				refused(t, d, l, api.ErrFull)
			}
		}
		holds(t, d, list[:most]...)
	}
}

// P7.1: in a full database there is room for keys that it has, and, behind a Drop, for another one.
func TestFull(t *testing.T) {
	list := many(41)
	for room, most := range rooms() {
		d := filled(t, room, list[:most]...)
		has := slices.Clone(list[:most])
		for i, l := range has {
			l.Head.Seq, l.Head.Age = 90+i, 17
			has[i] = l
			put(t, d, l)
			holds(t, d, has...)
		}
		refused(t, d, list[most], api.ErrFull)
		if !d.Drop(key(has[0])) {
			t.Errorf("room %d: nothing to drop", room)
		}
		has = append(has[1:], list[most])
		put(t, d, list[most])
		holds(t, d, has...)
		refused(t, d, list[0], api.ErrFull)
	}
}

// P7.1, R2: what isn't right is refused for that, whether there is room or not, and whether there is one of its key; nothing changes.
func TestPutWrong(t *testing.T) {
	list := many(40)
	for _, d := range []*Db{New(40), filled(t, 40, list[0], list[20]), filled(t, 1, list[0]), filled(t, 40, list...)} {
		for _, l := range wrongs() {
			refused(t, d, l, api.ErrArg)
		}
	}
}

// R2: what was refused is told by no later call: not by a tick, nor by what there is room for.
func TestRefusedLeavesNothing(t *testing.T) {
	a, b := router(1, 58, 2), network(3, 4, 0, 1)
	d := filled(t, 2, a)
	for _, l := range wrongs() {
		refused(t, d, l, api.ErrArg)
	}
	put(t, d, b)
	refused(t, d, router(2, 59, 0), api.ErrFull)
	refused(t, d, router(1, 61, 0), api.ErrArg)
	ticks(t, d)
	ticks(t, d, key(a))
	holds(t, d, aged(a, 60), aged(b, 2))
	lacks(t, d, key(router(2, 0, 0)))
}

// P7.1: what is put is the one of its key, newer or older than what was there, and nothing of that is left.
func TestPutInPlace(t *testing.T) {
	list := []api.Lsa{
		router(3, 9, 2), router(3, 9, 0), router(3, 0, 4), router(3, 60, 1),
		{Head: api.Head{Kind: api.Router, Id: 3, Adv: 3, Seq: api.FirstSeq}},
		{Head: api.Head{Kind: api.Router, Id: 3, Adv: 3, Seq: api.LastSeq}},
		router(3, 9, 2),
	}
	d := filled(t, 3, network(3, 3, 5, 1), router(2, 5, 1))
	for _, l := range append(list, list...) {
		put(t, d, l)
		holds(t, d, router(2, 5, 1), l, network(3, 3, 5, 1))
	}
	nets := []api.Lsa{network(3, 3, 1, 1, 2, 3), network(3, 3, 1, 15), network(3, 3, 1, 2, 3)}
	for _, l := range nets {
		put(t, d, l)
		holds(t, d, router(2, 5, 1), router(3, 9, 2), l)
	}
}

// P7.1: sum and length are the description's own, whatever its head has there; the sum was found by trying all pairs of bytes from 0 to 254.
func TestSealed(t *testing.T) {
	for _, given := range []api.Head{{}, {Sum: 1, Long: 1}, {Sum: -1, Long: -1}, {Sum: 65535, Long: 65535}, {Sum: math.MaxInt64, Long: math.MinInt64}} {
		a := api.Lsa{Head: api.Head{Age: 7, Kind: api.Router, Id: 1, Adv: 1, Sum: given.Sum, Long: given.Long}}
		b := network(17, 1, 7, 1, 2)
		b.Head.Sum, b.Head.Long = given.Sum, given.Long
		d := filled(t, 2, a, b)
		ticks(t, d)
		want := api.Head{Age: 8, Kind: api.Router, Id: 1, Adv: 1, Sum: 0x12d2, Long: 24}
		got, _ := d.Get(key(a))
		all := d.All()
		if got.Head != want || len(all) != 2 || all[0].Head != want {
			t.Errorf("sealed: %v and %v, want %v", got.Head, all, want)
		}
		got, _ = d.Get(key(b))
		if got.Head.Long != 28 || len(all) != 2 || all[1].Head != got.Head {
			t.Errorf("sealed: %v and %v", got.Head, all)
		}
		holds(t, d, aged(a, 8), aged(b, 8))
	}
}

// P7.1: Get and Drop of keys that are there, and of others, and again behind a Drop.
func TestGetAndDrop(t *testing.T) {
	list := []api.Lsa{router(2, 3, 1), router(5, 4, 0), network(2, 2, 5, 1, 9), network(18, 2, 6, 4)}
	absent := []api.Key{
		{}, {Kind: 1, Id: 1, Adv: 1}, {Kind: 1, Id: 2, Adv: 5}, {Kind: 1, Id: 5, Adv: 2}, {Kind: 2, Id: 5, Adv: 5}, {Kind: 2, Id: 2, Adv: 18},
		{Kind: 3, Id: 2, Adv: 2}, {Kind: 0, Id: 2, Adv: 2}, {Kind: -1, Id: -2, Adv: -2}, {Kind: 1 + 1<<32, Id: 2, Adv: 2},
		{Kind: math.MinInt64, Id: math.MaxInt64, Adv: math.MinInt64}, {Kind: math.MaxInt64, Id: math.MinInt64, Adv: math.MaxInt64},
	}
	for at := range list {
		d := filled(t, 4, list...)
		lacks(t, d, absent...)
		holds(t, d, list...)
		if !d.Drop(key(list[at])) {
			t.Errorf("Drop(%v): there is none", key(list[at]))
		}
		rest := slices.Delete(slices.Clone(list), at, at+1)
		holds(t, d, rest...)
		lacks(t, d, key(list[at]))
		lacks(t, d, absent...)
		put(t, d, list[at])
		holds(t, d, list...)
		for i, l := range list {
			if !d.Drop(key(l)) {
				t.Errorf("Drop(%v): there is none", key(l))
			}
			lacks(t, d, key(l))
			holds(t, d, list[i+1:]...)
		}
		ticks(t, d)
	}
}

// P7.1: keys that differ in one of their numbers alone are others, to Put, Get, Drop and Tick.
func TestKeysApart(t *testing.T) {
	for _, pair := range [][2]api.Lsa{
		{router(2, 57, 3), network(2, 2, 58, 1)},           // in Kind
		{network(2, 9, 57, 1, 2), network(3, 9, 58, 1)},    // in Id
		{network(7, 4, 57, 1), network(7, 5, 58, 1, 2, 3)}, // in Adv
		{network(3, 9, 57, 1), network(9, 3, 58, 2)},       // in the order of Id and Adv
	} {
		for turn := range 2 {
			d := filled(t, 2, pair[turn], pair[1-turn])
			holds(t, d, pair[:]...)
			ticks(t, d)
			ticks(t, d, key(pair[1]))
			ticks(t, d, key(pair[0]))
			put(t, d, pair[0])
			holds(t, d, pair[0], aged(pair[1], 60))
			if !d.Drop(key(pair[turn])) {
				t.Errorf("Drop(%v): there is none", key(pair[turn]))
			}
			lacks(t, d, key(pair[turn]))
			if d.Len() != 1 || !d.Drop(key(pair[1-turn])) {
				t.Errorf("%v went with %v", key(pair[1-turn]), key(pair[turn]))
			}
			lone := filled(t, 1, pair[turn])
			lacks(t, lone, key(pair[1-turn]))
			refused(t, lone, pair[1-turn], api.ErrFull)
		}
	}
}

// P7.1: a tick makes each one a tick older, at most 60, and tells those that came to be 60 by it.
func TestTick(t *testing.T) {
	list := []api.Lsa{router(1, 0, 0), router(2, 58, 2), router(3, 59, 1), router(4, 60, 4), network(1, 1, 57, 1)}
	d := filled(t, 40, list...)
	holds(t, d, list...)
	ticks(t, d, key(list[2]))
	holds(t, d, aged(list[0], 1), aged(list[1], 59), aged(list[2], 60), list[3], aged(list[4], 58))
	ticks(t, d, key(list[1]))
	holds(t, d, aged(list[0], 2), aged(list[1], 60), aged(list[2], 60), list[3], aged(list[4], 59))
	ticks(t, d, key(list[4]))
	ticks(t, d)
	holds(t, d, aged(list[0], 4), aged(list[1], 60), aged(list[2], 60), list[3], aged(list[4], 60))
}

// P7.1: from every age on it is told once, by the tick that makes it 60, and stays there.
func TestTickFromEveryAge(t *testing.T) {
	for age := range api.MaxAge + 1 {
		for _, l := range []api.Lsa{router(4, age, 2), network(20, 4, age, 4, 9)} {
			d := filled(t, 1, l)
			for n := 1; n <= 130; n++ {
				if age+n == 60 {
					ticks(t, d, key(l))
				} else {
					ticks(t, d)
				}
				holds(t, d, aged(l, min(age+n, 60)))
			}
		}
	}
}

// P7.1: those that come to be 60 at one tick are told in the order of keys, whatever the order of Puts.
func TestTickInOrder(t *testing.T) {
	want := []api.Lsa{router(2, 59, 1), router(10, 59, 0), network(2, 9, 59, 1), network(9, 1, 59, 1), network(9, 2, 59, 2), network(10, 1, 59, 1)}
	var keys []api.Key
	for _, l := range want {
		keys = append(keys, key(l))
	}
	young, old := network(9, 3, 58, 1), router(3, 60, 2)
	probe.Turns(slices.Clone(want), func(list []api.Lsa) {
		d := filled(t, 40, list[:3]...)
		put(t, d, young, old)
		put(t, d, list[3:]...)
		ticks(t, d, keys...)
		ticks(t, d, key(young))
		ticks(t, d)
	})
	full := many(40)
	keys = nil
	for i, l := range full {
		full[i] = aged(l, 59)
		keys = append(keys, key(l))
	}
	ticks(t, filled(t, 40, full...), keys...)
}

// P7.1: what was put anew ages anew; what was dropped, or replaced, isn't told.
func TestTickOfChanges(t *testing.T) {
	a, b, c := router(1, 59, 1), router(2, 59, 1), network(4, 2, 59, 2)
	d := filled(t, 3, a, b, c)
	d.Drop(key(a))
	put(t, d, aged(b, 20))
	ticks(t, d, key(c))
	put(t, d, aged(c, 58), a)
	ticks(t, d, key(a))
	ticks(t, d, key(c))
	holds(t, d, aged(a, 60), aged(b, 23), aged(c, 60))
	put(t, d, aged(a, 60))
	ticks(t, d)
	d.Drop(key(a))
	d.Drop(key(c))
	put(t, d, aged(a, 59))
	ticks(t, d, key(a))
	holds(t, d, aged(a, 60), aged(b, 25))
}

// P7.1: All is in the order of Kind, then Id, then Adv, as numbers, whatever the order of Puts.
func TestAllInOrder(t *testing.T) {
	want := []api.Lsa{router(2, 0, 1), router(10, 9, 2), router(15, 4, 0), network(0, 15, 2, 3), network(2, 14, 7, 1), network(10, 2, 1, 1, 2), network(10, 11, 1, 1)}
	probe.Turns(slices.Clone(want), func(list []api.Lsa) { holds(t, filled(t, 7, list...), want...) })
	full := many(40)
	for step := 1; step < 40; step += 2 {
		if step%5 == 0 {
			continue
		}
		// A step that shares no divisor with 40 leads past all of them.
		d := New(40)
		for i := range full {
			put(t, d, full[i*step%40])
		}
		holds(t, d, full...)
	}
}

// P7.1: of a nil Db nothing is answered, whatever it is given.
func TestNil(t *testing.T) {
	var d *Db
	for _, l := range append(many(3), wrongs()...) {
		if err := d.Put(l); err != api.ErrNil {
			t.Errorf("Put(%v) of nil: %d", l, int(err))
		}
		if got, is := d.Get(key(l)); is || !lsa.Same(got, api.Lsa{}) {
			t.Errorf("Get(%v) of nil: %v, %v", key(l), got, is)
		}
		if d.Drop(key(l)) {
			t.Errorf("Drop(%v) of nil", key(l))
		}
		if keys, all, n := d.Tick(), d.All(), d.Len(); len(keys) != 0 || len(all) != 0 || n != 0 {
			t.Errorf("of nil: %v, %v, %d", keys, all, n)
		}
	}
}

// P7.2, R4: what is put stays as it was, spare room included, whatever comes of it, and what is done to it behind that stays without effect.
func TestPutKeepsItsHandsOff(t *testing.T) {
	for _, l := range []api.Lsa{router(1, 3, 0), router(1, 3, 2), network(0, 1, 3, 1, 5), router(16, 0, 2), router(2, 0, 5), network(0, 1, 0, 5, 1)} {
		for _, d := range []*Db{nil, New(2), filled(t, 1, router(9, 0, 1)), filled(t, 1, router(1, 9, 1))} {
			given, links, members := probe.RoomyLsa(l)
			wasLinks, wasMembers := slices.Clone(links), slices.Clone(members)
			d.Put(given)
			want := d.All()
			for i, got := range d.All() {
				probe.ScribbleLsa(got)
				got, _ = d.Get(key(want[i]))
				probe.ScribbleLsa(got)
			}
			d.Tick()
			d.Drop(key(l))
			d.Put(given)
			if !slices.Equal(links, wasLinks) || !slices.Equal(members, wasMembers) {
				t.Errorf("%v changed: %v %v", l, links, members)
			}
			want = d.All()
			probe.ScribbleLsa(api.Lsa{Links: links, Members: members})
			holds(t, d, want...)
		}
	}
}

// P7.2, R4: what Get and All answer is nobody else's: what is done to it changes neither the database nor another answer.
func TestAnswersAreNewMemory(t *testing.T) {
	list := []api.Lsa{router(1, 3, 3), router(2, 4, 3), network(0, 1, 5, 1, 2, 3), network(0, 2, 6, 1, 2, 3)}
	for at, l := range list {
		d := filled(t, 4, list...)
		first, again := d.All(), d.All()
		one, _ := d.Get(key(l))
		two, _ := d.Get(key(l))
		probe.ScribbleLsa(one)
		probe.ScribbleLsa(first[at])
		holds(t, d, list...)
		for i := range list {
			if !lsa.Same(again[i], lsa.Seal(list[i])) || i != at && !lsa.Same(first[i], lsa.Seal(list[i])) {
				t.Errorf("%d shares memory with %d: %v %v", i, at, again[i], first[i])
			}
		}
		if !lsa.Same(two, lsa.Seal(l)) {
			t.Errorf("two answers of Get share memory: %v", two)
		}
		probe.Scribble(first, api.Lsa{})
		holds(t, d, list...)
		// Nor does the database change what it answered.
		d.Tick()
		put(t, d, aged(l, 50))
		d.Drop(key(list[0]))
		if !lsa.Same(two, lsa.Seal(l)) || !lsa.Same(again[at], lsa.Seal(l)) {
			t.Errorf("an answer changed: %v %v", two, again[at])
		}
	}
}

// P7.2, R4: the keys that a tick told are nobody else's, spare room included.
func TestKeysAreNewMemory(t *testing.T) {
	list := []api.Lsa{router(1, 59, 1), router(2, 59, 1), router(3, 58, 1), router(4, 58, 0), network(1, 1, 58, 1)}
	d := filled(t, 5, list...)
	first := d.Tick()
	was := slices.Clone(first)
	probe.Scribble(first[len(first):], api.Key{Kind: 9})
	second := d.Tick()
	if !slices.Equal(first, was) || len(second) != 3 {
		t.Fatalf("%v, then %v and %v", was, first, second)
	}
	probe.Scribble(first, api.Key{Id: 9})
	if !slices.Equal(second, []api.Key{key(list[2]), key(list[3]), key(list[4])}) {
		t.Errorf("two ticks' keys share memory: %v", second)
	}
	probe.Scribble(second, api.Key{})
	for i, l := range list {
		list[i] = aged(l, 60)
	}
	holds(t, d, list...)
}

// P7.2, R5: two databases have nothing in common.
func TestDatabasesApart(t *testing.T) {
	d, e := New(2), New(2)
	l := router(1, 59, 2)
	put(t, d, l)
	holds(t, e)
	ticks(t, e)
	put(t, e, aged(l, 3), network(1, 1, 0, 1))
	ticks(t, d, key(l))
	holds(t, e, aged(l, 3), network(1, 1, 0, 1))
	put(t, d, router(2, 0, 0))
	e.Drop(key(l))
	holds(t, d, aged(l, 60), router(2, 0, 0))
	got, _ := d.Get(key(l))
	put(t, e, got)
	probe.ScribbleLsa(got)
	holds(t, e, aged(l, 60), network(1, 1, 0, 1))
}

// slow is a database as a list that is looked through, in the order of Puts.
type slow struct {
	room int
	list []api.Lsa
}

// at answers where the description of a key stands, -1, if there is none.
func (s *slow) at(k api.Key) int {
	return slices.IndexFunc(s.list, func(l api.Lsa) bool { return key(l) == k })
}

// put does what Put does.
func (s *slow) put(l api.Lsa) api.Errno {
	if !lsa.Right(l) {
		return api.ErrArg
	}
	if at := s.at(key(l)); at >= 0 {
		s.list[at] = l
		return api.OK
	}
	if len(s.list) == s.room {
		return api.ErrFull
	}
	s.list = append(s.list, l)
	return api.OK
}

// drop does what Drop does.
func (s *slow) drop(k api.Key) bool {
	at := s.at(k)
	if at >= 0 {
		s.list = slices.Delete(s.list, at, at+1)
	}
	return at >= 0
}

// tick does what Tick does.
func (s *slow) tick() []api.Key {
	var out []api.Key
	for _, l := range s.all() {
		at := s.at(key(l))
		if l.Head.Age == 59 {
			out = append(out, key(l))
		}
		s.list[at].Head.Age = min(l.Head.Age+1, 60)
	}
	return out
}

// all answers the descriptions, of all keys that mixed makes, one by one.
func (s *slow) all() []api.Lsa {
	var out []api.Lsa
	for kind := api.Router; kind <= api.Network; kind++ {
		for id := range 6 {
			for adv := 1; adv <= 5; adv++ {
				if at := s.at(api.Key{Kind: kind, Id: id, Adv: adv}); at >= 0 {
					out = append(out, s.list[at])
				}
			}
		}
	}
	return out
}

// mixed answers a description of one of a few keys, mostly right.
func mixed(a, b, c byte) api.Lsa {
	age := int(b) % 62
	if c%8 == 0 {
		age = 57 + int(b)%5
	}
	if a%2 == 0 {
		return router(1+int(a)/2%5, age, int(c)%5)
	}
	return network(int(a)/2%3, 1+int(a)/6%3, age, 1+int(c)%3, 4)
}

// P7.1, R1, R5: through many calls, one behind the other, what is answered is what a plain list would answer.
func TestManyCalls(t *testing.T) {
	for seed := range 60 {
		room := 1 + seed%14
		d, s := New(room), &slow{room: room}
		m := probe.Mixed(1600, seed)
		for i := 0; i+4 <= len(m); i += 4 {
			l := mixed(m[i+1], m[i+2], m[i+3])
			switch m[i] % 8 {
			case 0:
				if got, want := d.Drop(key(l)), s.drop(key(l)); got != want {
					t.Fatalf("Drop(%v): %v", key(l), got)
				}
			case 1, 2:
				ticks(t, d, s.tick()...)
			default:
				if got, want := d.Put(l), s.put(l); got != want {
					t.Fatalf("Put(%v): %d, want %d", l, int(got), int(want))
				}
			}
			holds(t, d, s.all()...)
			if s.at(key(l)) < 0 {
				lacks(t, d, key(l))
			}
		}
		if t.Failed() {
			t.Fatalf("seed %d", seed)
		}
	}
}
