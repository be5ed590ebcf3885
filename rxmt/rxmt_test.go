package rxmt

import (
	"math"
	"slices"
	"testing"

	"syndic/api"
	"syndic/probe"
)

// key answers the key of a router's description.
func key(id int) api.Key { return api.Key{Kind: api.Router, Id: id, Adv: id} }

// rising answers n keys, in order.
func rising(n int) []api.Key { return probe.KeysOf(probe.HeadsOf(probe.Rising(n))) }

// far answers keys whose numbers are far from each other's, in order.
func far() []api.Key { return probe.KeysOf(probe.Far()) }

// foreign answers keys that are neither among those of rising, nor of far.
func foreign() []api.Key {
	return []api.Key{{}, {Kind: 99}, {Kind: 1, Id: 0, Adv: 4}, {Kind: 1, Id: 4, Adv: -1}, {Kind: math.MaxInt64, Id: math.MaxInt64, Adv: math.MaxInt64}}
}

// neighbors answers all neighbors that there may be.
func neighbors() []neighbor {
	var out []neighbor
	for lan := range api.MaxLan + 1 {
		for id := 1; id <= api.MaxId; id++ {
			out = append(out, neighbor{lan, id})
		}
	}
	return out
}

// odd answers neighbors that there may not be; put together in some plain way, the two numbers of some are like those of others, or of real ones.
func odd() []neighbor {
	return []neighbor{
		{0, 0}, {3, 0}, {0, 16}, {0, 18}, {1, 18}, {4, 2}, {2, -14}, {-1, 2}, {0, -2}, {15, 3}, {256, 2}, {0, 258}, {1 << 32, 2}, {0, 1<<32 + 2},
		{math.MinInt64, math.MaxInt64}, {math.MaxInt64, math.MinInt64}, {math.MinInt64, 2}, {0, math.MinInt64},
	}
}

// with answers lists, of which one neighbor's has these keys.
func with(at neighbor, keys ...api.Key) *Rxmt {
	r := New()
	r.Put(at.lan, at.id, keys...)
	return r
}

// holds holds that just these keys are on a neighbor's list, of which the first three are told, in order, however often it is asked.
func holds(t *testing.T, name string, r *Rxmt, at neighbor, want ...api.Key) {
	t.Helper()
	for range 2 {
		if got := r.Len(at.lan, at.id); got != len(want) {
			t.Errorf("%s: Len%v = %d, want %d", name, at, got, len(want))
		}
		if got, first := r.Next(at.lan, at.id), want[:min(len(want), 3)]; !slices.Equal(got, first) {
			t.Errorf("%s: Next%v = %v, want %v", name, at, got, first)
		}
	}
	for _, k := range want {
		if !r.On(at.lan, at.id, k) {
			t.Errorf("%s: On(%v, %v) = false", name, at, k)
		}
		if !r.Has(k) {
			t.Errorf("%s: Has(%v) = false", name, k)
		}
	}
}

// hasNot holds that these keys aren't on a neighbor's list, and that to acknowledge them changes nothing, on that list or another one.
func hasNot(t *testing.T, name string, r *Rxmt, at neighbor, keys ...api.Key) {
	t.Helper()
	n, next := r.Len(at.lan, at.id), r.Next(at.lan, at.id)
	for _, k := range keys {
		has := r.Has(k)
		for range 2 {
			if r.On(at.lan, at.id, k) {
				t.Errorf("%s: On(%v, %v) = true", name, at, k)
			}
			acks(t, name, r, at, k, false)
		}
		if r.Has(k) != has {
			t.Errorf("%s: Has(%v) = %v behind an Ack of what isn't on that list", name, k, !has)
		}
	}
	if got := r.Next(at.lan, at.id); r.Len(at.lan, at.id) != n || !slices.Equal(got, next) {
		t.Errorf("%s: %v has %d behind an Ack of what isn't on it: %v, was %d: %v", name, at, r.Len(at.lan, at.id), got, n, next)
	}
}

// nowhere holds that these keys are on no list, and that to drop them changes nothing.
func nowhere(t *testing.T, name string, r *Rxmt, keys ...api.Key) {
	t.Helper()
	for _, k := range keys {
		for range 2 {
			if r.Has(k) {
				t.Errorf("%s: Has(%v) = true", name, k)
			}
			drops(t, name, r, k, 0)
		}
	}
}

// puts holds how many are on a neighbor's list behind Put.
func puts(t *testing.T, name string, r *Rxmt, at neighbor, want int, keys ...api.Key) {
	t.Helper()
	if got := r.Put(at.lan, at.id, keys...); got != want {
		t.Errorf("%s: Put(%v, %v) = %d, want %d", name, at, keys, got, want)
	}
}

// acks holds whether a key that is acknowledged was on a neighbor's list; it isn't behind it.
func acks(t *testing.T, name string, r *Rxmt, at neighbor, k api.Key, want bool) {
	t.Helper()
	if got := r.Ack(at.lan, at.id, k); got != want {
		t.Errorf("%s: Ack(%v, %v) = %v, want %v", name, at, k, got, want)
	}
	if r.On(at.lan, at.id, k) {
		t.Errorf("%s: On(%v, %v) = true behind Ack", name, at, k)
	}
}

// forgets holds how many were on a neighbor's list that is forgotten; nothing is on it behind it.
func forgets(t *testing.T, name string, r *Rxmt, at neighbor, want int) {
	t.Helper()
	if got := r.Forget(at.lan, at.id); got != want {
		t.Errorf("%s: Forget%v = %d, want %d", name, at, got, want)
	}
	holds(t, name+", forgotten", r, at)
}

// drops holds on how many lists a key was that is dropped; it is on none behind it.
func drops(t *testing.T, name string, r *Rxmt, k api.Key, want int) {
	t.Helper()
	if got := r.Drop(k); got != want {
		t.Errorf("%s: Drop(%v) = %d, want %d", name, k, got, want)
	}
	if r.Has(k) {
		t.Errorf("%s: Has(%v) = true behind Drop", name, k)
	}
}

// drains holds that by telling what is next, and acknowledging all of that, just these keys are told, in order, till nothing is on a neighbor's list.
func drains(t *testing.T, name string, r *Rxmt, at neighbor, want ...api.Key) {
	t.Helper()
	for left := want; len(left) > 0; {
		holds(t, name, r, at, left...)
		for _, k := range left[:min(len(left), 3)] {
			acks(t, name, r, at, k, true)
		}
		left = left[min(len(left), 3):]
	}
	holds(t, name+", drained", r, at)
	hasNot(t, name+", drained", r, at, want...)
}

// P16.1: the chapter's example: Put of four keys: 4; Next tells three.
func TestChapterExample(t *testing.T) {
	r := New()
	puts(t, "four", r, neighbor{0, 2}, 4, key(4), key(2), key(3), key(1))
	if got, want := r.Next(0, 2), []api.Key{key(1), key(2), key(3)}; !slices.Equal(got, want) {
		t.Errorf("Next(0, 2) = %v, want %v", got, want)
	}
}

// P16.1, P16.2: of what is new all lists are empty.
func TestNew(t *testing.T) {
	r := New()
	if r == nil {
		t.Fatal("New answers nil")
	}
	for _, at := range append(neighbors(), odd()...) {
		holds(t, "new", r, at)
		hasNot(t, "new", r, at, foreign()...)
		forgets(t, "new", r, at, 0)
	}
	nowhere(t, "new", r, foreign()...)
	nowhere(t, "new", r, far()...)
}

// P16.1: Put of none answers how many are on the list, and changes nothing.
func TestPutNothing(t *testing.T) {
	at := neighbor{1, 4}
	for n := range 6 {
		all := rising(n)
		r := with(at, all...)
		for _, to := range append(odd(), at, neighbor{1, 5}, neighbor{0, 4}) {
			want := 0
			if to == at {
				want = n
			}
			puts(t, "none", r, to, want)
			puts(t, "none", r, to, want, []api.Key{}...)
			puts(t, "none", r, to, want, nil...)
		}
		holds(t, "none", r, at, all...)
		holds(t, "none", r, neighbor{1, 5})
		nowhere(t, "none", r, foreign()...)
	}
}

// P16.1: keys are all on the list, whatever order they come in, in one call or in several, and once more; Next tells the first three, in the order of keys.
func TestPutInAnyOrder(t *testing.T) {
	at := neighbor{2, 7}
	for n := range 7 {
		all := rising(n)
		probe.Turns(slices.Clone(all), func(keys []api.Key) {
			r := New()
			puts(t, "at once", r, at, n, keys...)
			holds(t, "at once", r, at, all...)
			r = New()
			for i, k := range keys {
				hasNot(t, "one by one, ahead of it", r, at, k)
				puts(t, "one by one", r, at, i+1, k)
				puts(t, "one by one, once more", r, at, i+1, k)
			}
			holds(t, "one by one", r, at, all...)
			r = New()
			puts(t, "in two calls", r, at, n/2, keys[:n/2]...)
			puts(t, "in two calls", r, at, n, keys[n/2:]...)
			holds(t, "in two calls", r, at, all...)
			puts(t, "all once more", r, at, n, keys...)
			holds(t, "all once more", r, at, all...)
		})
	}
}

// P16.1: many keys are on the list, and are told by threes, in order, as those told ahead of them are acknowledged.
func TestPutMany(t *testing.T) {
	for _, n := range []int{0, 1, 2, 3, 4, 5, 6, 7, 8, 9, 39, 40, 41, 120, 1000} {
		all := rising(n)
		for seed := range 5 {
			at := neighbors()[(n+seed)%60]
			r := New()
			puts(t, "many", r, at, n, probe.Strewn(all, seed)...)
			holds(t, "many", r, at, all...)
			hasNot(t, "many", r, at, foreign()...)
			drains(t, "many", r, at, all...)
			nowhere(t, "many, drained", r, all...)
		}
	}
}

// P16.1: a key that comes twice, in one call or in several, is on the list once: one Ack takes it off.
func TestPutTwice(t *testing.T) {
	at := neighbor{3, 15}
	a, b, c := key(1), key(2), key(3)
	probe.Turns([]api.Key{a, b, b, c, c, c}, func(keys []api.Key) {
		r := New()
		puts(t, "in one call", r, at, 3, keys...)
		holds(t, "in one call", r, at, a, b, c)
		puts(t, "in a second one", r, at, 3, keys[3:]...)
		holds(t, "in a second one", r, at, a, b, c)
		acks(t, "once", r, at, keys[0], true)
		acks(t, "twice", r, at, keys[0], false)
		nowhere(t, "acknowledged", r, keys[0])
		puts(t, "put again", r, at, 3, keys[0], keys[0])
		holds(t, "put again", r, at, a, b, c)
		drops(t, "dropped", r, keys[1], 1)
		drops(t, "dropped twice", r, keys[1], 0)
		forgets(t, "the others", r, at, 2)
	})
	r := New()
	for range 50 {
		puts(t, "often", r, at, 4, slices.Repeat([]api.Key{key(4), b, a, c}, 9)...)
	}
	drains(t, "often", r, at, a, b, c, key(4))
}

// P16.1: keys that differ in one field alone are on the list beside each other: Put, On, Ack, Drop and Has tell them apart.
func TestKeysApart(t *testing.T) {
	k, at := api.Key{Kind: 2, Id: 5, Adv: 9}, neighbor{0, 3}
	r := with(at, k)
	others := probe.Apart(k)
	hasNot(t, "keys apart", r, at, others...)
	nowhere(t, "keys apart", r, others...)
	holds(t, "keys apart", r, at, k)
	for i, other := range others {
		hasNot(t, "not yet there", r, at, other)
		nowhere(t, "not yet there", r, other)
		puts(t, "keys apart", r, at, 2+i, other)
	}
	for i, other := range others {
		if i%2 == 0 {
			acks(t, "keys apart", r, at, other, true)
		} else {
			drops(t, "keys apart", r, other, 1)
		}
		hasNot(t, "taken off", r, at, other)
		nowhere(t, "taken off", r, other)
		if got := r.Len(at.lan, at.id); got != len(others)-i {
			t.Errorf("Len%v = %d behind %d that were taken off", at, got, i+1)
		}
	}
	holds(t, "the others taken off", r, at, k)
}

// P16.1: keys are in the order of Kind, then Id, then Adv, as numbers, and are on the list as they stand, whether or not there may be a description of them.
func TestNextInOrder(t *testing.T) {
	all, at := far(), neighbor{1, 9}
	for seed := range 60 {
		r := New()
		puts(t, "far", r, at, len(all), probe.Strewn(all, seed)...)
		drains(t, "far", r, at, all...)
	}
	for i := range all {
		drains(t, "from there on", with(at, probe.Strewn(all[i:], i)...), at, all[i:]...)
		drains(t, "alone", with(at, all[i]), at, all[i])
	}
}

// P16.1: what comes onto a list ahead of others is told ahead of them; what is taken off it makes room for the next one.
func TestNextOfLateOnes(t *testing.T) {
	at := neighbor{0, 1}
	r := with(at, key(9), key(8), key(7))
	puts(t, "one ahead", r, at, 4, key(5))
	holds(t, "one ahead", r, at, key(5), key(7), key(8), key(9))
	puts(t, "one between, one behind", r, at, 6, key(10), key(6))
	holds(t, "one between, one behind", r, at, key(5), key(6), key(7), key(8), key(9), key(10))
	acks(t, "the midst", r, at, key(6), true)
	holds(t, "the midst", r, at, key(5), key(7), key(8), key(9), key(10))
	drops(t, "the first one", r, key(5), 1)
	holds(t, "the first one", r, at, key(7), key(8), key(9), key(10))
	acks(t, "the last one", r, at, key(10), true)
	holds(t, "the last one", r, at, key(7), key(8), key(9))
	acks(t, "one of three", r, at, key(8), true)
	holds(t, "one of three", r, at, key(7), key(9))
}

// P16.1: each neighbor has a list of its own: the same number on another network is another one, and so is another number on the same network.
func TestNeighborsApart(t *testing.T) {
	places := append(neighbors(), odd()...)
	r := New()
	k, shared := rising(len(places)), api.Key{Kind: 99}
	for i, at := range places {
		hasNot(t, "nothing yet", r, at, k[i], shared)
		forgets(t, "nothing yet", r, at, 0)
		puts(t, "one each", r, at, 2, shared, k[i])
	}
	for i, at := range places {
		holds(t, "one each", r, at, k[i], shared)
		hasNot(t, "another one's", r, at, k[(i+1)%len(k)], k[(i+7)%len(k)])
	}
	for i, at := range places {
		acks(t, "its own", r, at, k[i], true)
		nowhere(t, "its own", r, k[i])
		holds(t, "its own", r, at, shared)
		if i+1 < len(k) {
			holds(t, "the next one's", r, places[i+1], k[i+1], shared)
		}
	}
	for i, at := range places {
		if !r.Has(shared) {
			t.Errorf("Has(%v) = false behind %d of %d", shared, i, len(places))
		}
		acks(t, "shared", r, at, shared, true)
		acks(t, "shared, twice", r, at, shared, false)
		holds(t, "shared", r, at)
		for _, other := range places[i+1:] {
			holds(t, "shared, another one", r, other, shared)
		}
	}
	nowhere(t, "shared", r, shared)
}

// P16.1: what is on another neighbor's list alone isn't taken off it.
func TestAckOfAnotherList(t *testing.T) {
	at := neighbor{1, 2}
	r := with(at, key(3), key(4))
	for _, other := range append(odd(), neighbor{0, 2}, neighbor{2, 2}, neighbor{1, 1}, neighbor{1, 3}, neighbor{2, 1}) {
		hasNot(t, "another one's", r, other, key(3), key(4), key(5))
		holds(t, "another one", r, other)
		puts(t, "another one", r, other, 1, key(5))
		hasNot(t, "another one, that has one", r, other, key(3), key(4))
		holds(t, "its own", r, at, key(3), key(4))
		acks(t, "another one", r, other, key(5), true)
	}
	holds(t, "its own", r, at, key(3), key(4))
}

// P16.1: what was acknowledged isn't on the list any more, whatever order they are acknowledged in; once more it is false; what is put behind it is on it.
func TestAck(t *testing.T) {
	at, other := neighbor{0, 2}, neighbor{1, 2}
	for n := 1; n < 6; n++ {
		all := rising(n)
		probe.Turns(slices.Clone(all), func(keys []api.Key) {
			r := with(at, all...)
			puts(t, "another one", r, other, n, all...)
			rest := slices.Clone(all)
			for _, k := range keys {
				acks(t, "one by one", r, at, k, true)
				acks(t, "one by one, once more", r, at, k, false)
				rest = slices.DeleteFunc(rest, func(g api.Key) bool { return g == k })
				holds(t, "one by one", r, at, rest...)
			}
			hasNot(t, "all", r, at, all...)
			holds(t, "another one", r, other, all...)
			puts(t, "put behind it", r, at, 1, keys[0])
			holds(t, "put behind it", r, at, keys[0])
			acks(t, "put behind it", r, at, keys[0], true)
			holds(t, "put behind it, and acknowledged", r, at)
		})
	}
}

// P16.1: Forget tells how many were on the list, 0 the second time; what is put behind it is on it; other lists stay as they were.
func TestForget(t *testing.T) {
	at := neighbor{2, 4}
	others := []neighbor{{2, 5}, {1, 4}, {4, 2}, {2, 20}, {3, 15}}
	for _, n := range []int{0, 1, 2, 3, 4, 40, 300} {
		all := rising(n)
		r := with(at, probe.Strewn(all, n)...)
		for i, other := range others {
			puts(t, "another one", r, other, min(n, i+1), all[:min(n, i+1)]...)
		}
		forgets(t, "once", r, at, n)
		forgets(t, "twice", r, at, 0)
		hasNot(t, "forgotten", r, at, all...)
		for i, other := range others {
			holds(t, "another one", r, other, all[:min(n, i+1)]...)
		}
		nowhere(t, "forgotten", r, all[min(n, len(others)):]...)
		puts(t, "behind Forget", r, at, n, all...)
		holds(t, "behind Forget", r, at, all...)
		if n > 0 {
			acks(t, "one of them", r, at, all[0], true)
			forgets(t, "one of them acknowledged", r, at, n-1)
		}
		puts(t, "one more", r, at, 1, key(3))
		forgets(t, "one more", r, at, 1)
	}
}

// P16.1, P16.2: a list that is forgotten leaves what is on others: Has and Drop tell these alone.
func TestForgetAndOthers(t *testing.T) {
	all := neighbors()
	k := key(6)
	r := New()
	for _, at := range all {
		r.Put(at.lan, at.id, k, key(at.id))
	}
	for i, at := range all {
		want := 2
		if at.id == 6 {
			want = 1
		}
		forgets(t, "one after another", r, at, want)
		if got := r.Has(k); got != (i+1 < len(all)) {
			t.Errorf("Has(%v) = %v behind %d of %d", k, got, i+1, len(all))
		}
	}
	nowhere(t, "all forgotten", r, k, key(1))
	for n := range 20 {
		for _, at := range all {
			r.Put(at.lan, at.id, k)
		}
		for _, at := range probe.Strewn(all, n)[:n] {
			r.Forget(at.lan, at.id)
		}
		drops(t, "some forgotten", r, k, len(all)-n)
	}
}

// P16.2: Drop tells on how many lists a key was, 0 the second time, and leaves the other keys.
func TestDrop(t *testing.T) {
	places := append(neighbors(), odd()...)
	for n := range len(places) + 1 {
		some := probe.Strewn(places, n)[:n]
		a, k, z := key(2), key(5), key(8)
		r := New()
		for i, at := range places {
			puts(t, "others", r, at, 1+i%2, []api.Key{a, z}[:1+i%2]...)
		}
		for _, at := range some {
			r.Put(at.lan, at.id, k)
		}
		drops(t, "once", r, k, n)
		nowhere(t, "once", r, k)
		for i, at := range places {
			hasNot(t, "dropped", r, at, k)
			holds(t, "others", r, at, []api.Key{a, z}[:1+i%2]...)
		}
		drops(t, "the other one", r, z, len(places)/2)
		drops(t, "the first one", r, a, len(places))
		nowhere(t, "all", r, a, k, z)
	}
}

// P16.2: Drop of a key that differs in one field alone, or is on no list, changes nothing; what is dropped may be put again.
func TestDropNone(t *testing.T) {
	for n := range 6 {
		r := New()
		all := rising(n)
		for _, at := range neighbors() {
			r.Put(at.lan, at.id, all...)
		}
		for _, k := range all {
			for _, other := range probe.Apart(k) {
				if !slices.Contains(all, other) {
					nowhere(t, "apart", r, other)
				}
			}
		}
		nowhere(t, "foreign", r, foreign()...)
		for _, at := range neighbors() {
			holds(t, "foreign", r, at, all...)
		}
		for i, k := range all {
			drops(t, "there", r, k, 60)
			puts(t, "put again", r, neighbor{3, 3}, n-i, k)
			acks(t, "put again", r, neighbor{3, 3}, k, true)
			nowhere(t, "put again, and acknowledged", r, k)
		}
		for _, at := range neighbors() {
			holds(t, "dropped all", r, at)
			forgets(t, "dropped all", r, at, 0)
		}
	}
}

// P16.2: Has tells whether a key is on one list at least, behind each of the calls that put it on one, or take it off.
func TestHas(t *testing.T) {
	a, b, c := neighbor{0, 2}, neighbor{1, 2}, neighbor{0, 3}
	k := key(7)
	has := func(name string, r *Rxmt, want bool) {
		t.Helper()
		if got := r.Has(k); got != want {
			t.Errorf("%s: Has(%v) = %v, want %v", name, k, got, want)
		}
		if others := probe.Apart(k); slices.ContainsFunc(others, r.Has) {
			t.Errorf("%s: Has of one of %v = true", name, others)
		}
	}
	probe.Turns([]neighbor{a, b, c}, func(l []neighbor) {
		r := New()
		has("none", r, false)
		for _, at := range l {
			r.Put(at.lan, at.id, k)
			has("put", r, true)
		}
		acks(t, "one", r, l[0], k, true)
		has("one acknowledged", r, true)
		forgets(t, "two", r, l[1], 1)
		has("two forgotten", r, true)
		acks(t, "three", r, l[2], k, true)
		has("all three off", r, false)
		r.Put(l[1].lan, l[1].id, k, key(70))
		has("put again", r, true)
		forgets(t, "put again", r, l[1], 2)
		has("forgotten", r, false)
		r.Put(l[0].lan, l[0].id, k, key(70))
		r.Put(l[2].lan, l[2].id, k)
		has("put on two", r, true)
		drops(t, "put on two", r, k, 2)
		has("dropped", r, false)
		holds(t, "the other one", r, l[0], key(70))
	})
}

// P16.2, R1: of a nil Rxmt nothing is on any list, ever.
func TestNilRxmt(t *testing.T) {
	var r *Rxmt
	for range 3 {
		for _, at := range append(neighbors(), odd()...) {
			puts(t, "nil", r, at, 0)
			puts(t, "nil", r, at, 0, key(1))
			puts(t, "nil", r, at, 0, key(2), key(1), key(2), api.Key{})
			holds(t, "nil", r, at)
			hasNot(t, "nil", r, at, api.Key{}, key(1), key(2))
			forgets(t, "nil", r, at, 0)
		}
		nowhere(t, "nil", r, api.Key{}, key(1), key(2))
	}
}

// entry is a key on a neighbor's list.
type entry struct {
	at  neighbor
	key api.Key
}

// sheet is what is on all lists told another way: entries side by side, as they came.
type sheet struct{ entries []entry }

// take takes off those entries that are as asked, and answers how many.
func (l *sheet) take(is func(entry) bool) int {
	was := len(l.entries)
	l.entries = slices.DeleteFunc(l.entries, is)
	return was - len(l.entries)
}

// put puts a key on a list.
func (l *sheet) put(e entry) {
	if !slices.Contains(l.entries, e) {
		l.entries = append(l.entries, e)
	}
}

// sorted answers what is on a list in order.
func (l *sheet) sorted(at neighbor) []api.Key {
	var out []api.Key
	for kind := range 3 {
		for id := range 4 {
			for adv := range 3 {
				if k := (api.Key{Kind: kind, Id: id, Adv: adv}); slices.Contains(l.entries, entry{at, k}) {
					out = append(out, k)
				}
			}
		}
	}
	return out
}

// anyKey answers one of a few keys.
func anyKey(b byte) api.Key {
	return api.Key{Kind: int(b) % 3, Id: int(b) / 3 % 4, Adv: int(b) / 12 % 3}
}

// step makes one call of lists, and the same of what is told another way.
func step(t *testing.T, r *Rxmt, l *sheet, what byte, e entry, more ...api.Key) {
	t.Helper()
	switch what %= 64; {
	case what == 0:
		forgets(t, "mixed", r, e.at, l.take(func(x entry) bool { return x.at == e.at }))
	case what < 5:
		drops(t, "mixed", r, e.key, l.take(func(x entry) bool { return x.key == e.key }))
	case what < 30:
		acks(t, "mixed", r, e.at, e.key, l.take(func(x entry) bool { return x == e }) == 1)
	default:
		keys := append([]api.Key{e.key}, more...)
		for _, k := range keys {
			l.put(entry{e.at, k})
		}
		puts(t, "mixed", r, e.at, len(l.sorted(e.at)), keys...)
	}
}

// P16.1, P16.2, R5: many calls without a plain rule are answered as what is told another way.
func TestMixed(t *testing.T) {
	places := []neighbor{{0, 1}, {1, 0}, {1, 1}, {0, 17}}
	for seed := range 40 {
		r, l := New(), &sheet{}
		m := probe.Mixed(2000, seed)
		for i := 0; i < len(m); i += 4 {
			e := entry{places[m[i+1]>>4%4], anyKey(m[i+2])}
			step(t, r, l, m[i], e, anyKey(m[i+3]), anyKey(m[i+1]))
			for _, at := range places {
				holds(t, "mixed", r, at, l.sorted(at)...)
			}
			k := anyKey(m[i+3])
			if got, want := r.Has(k), slices.ContainsFunc(l.entries, func(x entry) bool { return x.key == k }); got != want {
				t.Errorf("mixed: Has(%v) = %v, want %v", k, got, want)
			}
		}
		if t.Failed() {
			t.Fatalf("seed %d", seed)
		}
	}
}

// P16.1, P16.2: of a neighbor on whose list nothing is any more nothing is kept.
func TestNothingIsKept(t *testing.T) {
	k := rising(5)
	for _, c := range []struct {
		name string
		off  func(r *Rxmt, at neighbor)
	}{
		{"nothing put", func(r *Rxmt, at neighbor) { r.Forget(at.lan, at.id) }},
		{"acknowledged", func(r *Rxmt, at neighbor) {
			r.Put(at.lan, at.id, k...)
			for _, x := range k {
				r.Ack(at.lan, at.id, x)
			}
		}},
		{"dropped", func(r *Rxmt, at neighbor) {
			r.Put(at.lan, at.id, k...)
			for _, x := range k {
				r.Drop(x)
			}
		}},
		{"forgotten", func(r *Rxmt, at neighbor) {
			r.Put(at.lan, at.id, k...)
			r.Forget(at.lan, at.id)
		}},
	} {
		r := New()
		for _, at := range append(neighbors(), odd()...) {
			r.Put(at.lan, at.id)
			c.off(r, at)
			r.Put(at.lan, at.id)
			if len(r.lists) != 0 {
				t.Errorf("%s: %v is kept", c.name, r.lists)
			}
		}
	}
}

// R4: keys that are handed in stay as they were, spare room included, and aren't kept.
func TestHandedInStays(t *testing.T) {
	at, other := neighbor{1, 2}, neighbor{1, 3}
	for n := range 14 {
		all := rising(n)
		keys, whole := probe.Roomy(probe.Strewn(slices.Concat(all, all), n), 5, key(99))
		was := slices.Clone(whole)
		r := New()
		puts(t, "roomy", r, at, n, keys...)
		puts(t, "roomy, once more", r, at, n, keys...)
		puts(t, "roomy, to another one", r, other, n, keys...)
		holds(t, "roomy", r, at, all...)
		if !slices.Equal(whole, was) {
			t.Errorf("Put made what was handed in %v, was %v", whole, was)
		}
		probe.Scribble(keys, api.Key{Kind: -1, Adv: math.MaxInt64})
		nowhere(t, "scribbled", r, key(99), api.Key{Kind: -1, Adv: math.MaxInt64})
		drains(t, "scribbled", r, at, all...)
		drains(t, "scribbled, another one", r, other, all...)
		puts(t, "others in the same memory", r, at, min(n, 1), keys...)
	}
}

// R4: lists that were answered may be written all over, spare room included, and stay as they are behind later calls.
func TestAnsweredIsNew(t *testing.T) {
	at, mark := neighbor{0, 9}, api.Key{Kind: -1}
	for n := range 14 {
		all := rising(n)
		r := with(at, probe.Strewn(all, n)...)
		kept, again := r.Next(at.lan, at.id), r.Next(at.lan, at.id)
		for range 2 {
			probe.Scribble(r.Next(at.lan, at.id), mark)
			holds(t, "scribbled", r, at, all...)
		}
		probe.Scribble(again, mark)
		puts(t, "one ahead", r, at, n+1, api.Key{})
		drops(t, "one ahead", r, api.Key{}, 1)
		for _, k := range all {
			acks(t, "scribbled", r, at, k, true)
		}
		if !slices.Equal(kept, all[:min(n, 3)]) {
			t.Errorf("what was answered is %v by now, was %v", kept, all[:min(n, 3)])
		}
		nowhere(t, "scribbled", r, mark)
	}
}

// R5: two Rxmt share nothing, and the same calls are answered alike, whatever was asked of others between.
func TestRxmtsApart(t *testing.T) {
	at, beside := neighbor{2, 6}, neighbor{3, 6}
	for n := range 12 {
		all := rising(n)
		a, b, other := New(), New(), with(at, all...)
		for i, k := range probe.Strewn(all, n) {
			puts(t, "one", a, at, i+1, k)
			holds(t, "another one", b, at, all[:i]...)
			other.Drop(k)
			other.Put(beside.lan, beside.id, key(900+i))
			puts(t, "another one", b, at, i+1, all[i])
		}
		holds(t, "one", a, at, all...)
		holds(t, "another one", b, at, all...)
		holds(t, "a third one", other, at)
		for i, k := range all {
			acks(t, "one", a, at, k, true)
			holds(t, "one", a, at, all[i+1:]...)
			holds(t, "another one", b, at, all...)
		}
		nowhere(t, "one", a, all...)
		holds(t, "another one", b, at, all...)
		forgets(t, "a third one", other, beside, n)
		forgets(t, "another one", b, at, n)
		forgets(t, "one", a, at, 0)
	}
}
