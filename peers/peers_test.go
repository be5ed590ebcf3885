package peers

import (
	"math"
	"slices"
	"testing"

	"syndic/api"
	"syndic/probe"
)

// The tests' router is 4, on network 2.
const (
	self = 4
	lan  = 2
)

// hello answers a Hello that is taken, of a router that takes these two (by their numbers) for both, and lists these.
func hello(prio, dr, bdr int, seen ...int) api.Hello {
	return api.Hello{Every: 2, Dead: 8, Prio: prio, Dr: address(dr), Bdr: address(bdr), Seen: seen}
}

// address answers a router's address on the tests' network, 0 of none.
func address(id int) int {
	if id == 0 {
		return 0
	}
	return 32 + id
}

// strange answers numbers that are no router's.
func strange() []int {
	return []int{0, -1, -2, -15, -16, 16, 17, 18, 31, 32, 36, 64, 255, 256, 258, 1<<32 + 2, math.MinInt64, math.MinInt64 + 2, math.MaxInt64 - 1, math.MaxInt64}
}

// hears holds what a Hello leads to.
func hears(t *testing.T, name string, p *Peers, from int, h api.Hello, now int, want api.Heard) {
	t.Helper()
	if got := p.Hear(from, h, now); got != want {
		t.Errorf("%s: Hear(%d, %v, %d) = %+v, want %+v", name, from, h, now, got, want)
	}
}

// has holds all that a list tells of its neighbors: these, by their numbers.
func has(t *testing.T, name string, p *Peers, want ...api.Peer) {
	t.Helper()
	if got := p.All(); !slices.Equal(got, want) {
		t.Errorf("%s: All() = %v, want %v", name, got, want)
	}
	var seen []int
	var cands []api.Cand
	for _, x := range want {
		seen = append(seen, x.Id)
		if x.Two {
			cands = append(cands, api.Cand{Id: x.Id, Prio: x.Prio, Dr: x.Dr, Bdr: x.Bdr})
		}
	}
	if got := p.Seen(); !slices.Equal(got, seen) {
		t.Errorf("%s: Seen() = %v, want %v", name, got, seen)
	}
	if got := p.Cands(); !slices.Equal(got, cands) {
		t.Errorf("%s: Cands() = %v, want %v", name, got, cands)
	}
	for id := -1; id <= 17; id++ {
		at := slices.Index(seen, id)
		got, is := p.Get(id)
		if is != (at >= 0) || !is && got != (api.Peer{}) || is && got != want[at] {
			t.Errorf("%s: Get(%d) = %v, %v", name, id, got, is)
		}
	}
}

// lates holds who is late at a tick.
func lates(t *testing.T, p *Peers, now int, want ...int) {
	t.Helper()
	if got := p.Late(now); !slices.Equal(got, want) {
		t.Errorf("Late(%d) = %v, want %v", now, got, want)
	}
}

// P12.1: a list has nobody to begin with.
func TestNew(t *testing.T) {
	p := New(self, lan)
	if p == nil {
		t.Fatal("New answers nil")
	}
	has(t, "a new list", p)
	lates(t, p, 0)
	lates(t, p, math.MaxInt64)
}

// P12.1: a Hello of a new neighbor, and what there is of that behind it.
func TestHearNew(t *testing.T) {
	for _, x := range []struct {
		name  string
		from  int
		h     api.Hello
		now   int
		heard api.Heard
		is    api.Peer
	}{
		{"the chapter's example, of this router", 2, hello(1, 0, 0, self), 3, api.Heard{Taken: true, Fresh: true, Two: true, Bears: true}, api.Peer{Id: 2, Prio: 1, State: 1, Two: true, At: 3}},
		{"it lists nobody", 2, hello(1, 0, 0), 3, api.Heard{Taken: true, Fresh: true}, api.Peer{Id: 2, Prio: 1, State: 1, At: 3}},
		{"it lists others", 2, hello(1, 0, 0, 1, 3, 5), 3, api.Heard{Taken: true, Fresh: true}, api.Peer{Id: 2, Prio: 1, State: 1, At: 3}},
		{"it lists many", 2, hello(1, 0, 0, 1, 3, 4, 5), 3, api.Heard{Taken: true, Fresh: true, Two: true, Bears: true}, api.Peer{Id: 2, Prio: 1, State: 1, Two: true, At: 3}},
		{"it lists this router last, in no order", 2, hello(1, 0, 0, 9, 3, 4), 3, api.Heard{Taken: true, Fresh: true, Two: true, Bears: true}, api.Peer{Id: 2, Prio: 1, State: 1, Two: true, At: 3}},
		{"it lists an address of this router", 2, hello(1, 0, 0, 36), 3, api.Heard{Taken: true, Fresh: true}, api.Peer{Id: 2, Prio: 1, State: 1, At: 3}},
		{"it takes others for both", 2, hello(7, 5, 6, self), 0, api.Heard{Taken: true, Fresh: true, Two: true, Bears: true}, api.Peer{Id: 2, Prio: 7, Dr: 5, Bdr: 6, State: 1, Two: true}},
		{"it takes itself for designated, didn't hear", 2, hello(7, 2, 0), 0, api.Heard{Taken: true, Fresh: true}, api.Peer{Id: 2, Prio: 7, Dr: 2, State: 1}},
		{"it takes itself for the backup, didn't hear", 2, hello(7, 0, 2), 0, api.Heard{Taken: true, Fresh: true}, api.Peer{Id: 2, Prio: 7, Bdr: 2, State: 1}},
		{"it takes this router for both", 2, hello(7, self, self), 0, api.Heard{Taken: true, Fresh: true}, api.Peer{Id: 2, Prio: 7, Dr: 4, Bdr: 4, State: 1}},
		{"it takes the least and the greatest for both", 2, hello(0, 1, 15), 0, api.Heard{Taken: true, Fresh: true}, api.Peer{Id: 2, Dr: 1, Bdr: 15, State: 1}},
		{"the least number", 1, hello(0, 15, 1, self), 7, api.Heard{Taken: true, Fresh: true, Two: true, Bears: true}, api.Peer{Id: 1, Dr: 15, Bdr: 1, State: 1, Two: true, At: 7}},
		{"the greatest number", 15, hello(255, 15, 15, self), 7, api.Heard{Taken: true, Fresh: true, Two: true, Bears: true}, api.Peer{Id: 15, Prio: 255, Dr: 15, Bdr: 15, State: 1, Two: true, At: 7}},
		{"no priority, nothing", 9, hello(0, 0, 0, self), 7, api.Heard{Taken: true, Fresh: true, Two: true, Bears: true}, api.Peer{Id: 9, State: 1, Two: true, At: 7}},
		{"a tick below 0", 9, hello(0, 0, 0), -7, api.Heard{Taken: true, Fresh: true}, api.Peer{Id: 9, State: 1, At: -7}},
		{"ticks and priorities at the ends", 9, hello(math.MinInt64, 0, 0), math.MaxInt64, api.Heard{Taken: true, Fresh: true}, api.Peer{Id: 9, Prio: math.MinInt64, State: 1, At: math.MaxInt64}},
	} {
		p := New(self, lan)
		hears(t, x.name, p, x.from, x.h, x.now, x.heard)
		has(t, x.name, p, x.is)
	}
}

// refused answers Hellos that aren't taken, whoever sends them.
func refused() []api.Hello {
	good := hello(3, 2, 0, self)
	var l []api.Hello
	for _, n := range []int{0, 1, 3, 8, -2, -1, 258, 1<<32 + 2, math.MinInt64, math.MaxInt64} {
		h := good
		h.Every = n
		l = append(l, h)
	}
	for _, n := range []int{0, 2, 7, 9, -8, 264, 1<<32 + 8, math.MinInt64, math.MaxInt64} {
		h := good
		h.Dead = n
		l = append(l, h)
	}
	foreign := []int{1, 2, 15, 16, 17, 18, 31, 32, 48, 49, 50, 63, 64, 66, 96, 290, 1<<32 + 34, -1, -16, -30, math.MinInt64, math.MinInt64 + 34, math.MaxInt64}
	for _, n := range foreign {
		h := good
		h.Dr = n
		l = append(l, h)
		h = good
		h.Bdr = n
		l = append(l, h)
		h.Dr = n
		l = append(l, h)
	}
	return l
}

// P12.1: what isn't taken answers nothing, and changes nothing: of a new neighbor, and of one that is known.
func TestHearRefused(t *testing.T) {
	p := New(self, lan)
	for _, h := range refused() {
		hears(t, "of a new one", p, 2, h, 9, api.Heard{})
	}
	has(t, "of a new one", p)
	hears(t, "taken", p, 2, hello(1, 5, 6), 3, api.Heard{Taken: true, Fresh: true})
	is := api.Peer{Id: 2, Prio: 1, Dr: 5, Bdr: 6, State: 1, At: 3}
	has(t, "taken", p, is)
	for _, h := range refused() {
		hears(t, "of one that is known", p, 2, h, 9, api.Heard{})
		hears(t, "of a second one", p, 3, h, 9, api.Heard{})
		has(t, "of one that is known", p, is)
	}
	for _, from := range append(strange(), self) {
		hears(t, "of nobody", p, from, hello(3, 2, 0, self), 9, api.Heard{})
		has(t, "of nobody", p, is)
	}
}

// P12.1: on each network the addresses are its own, and whom a neighbor takes for both is told by their numbers.
func TestHearNetworks(t *testing.T) {
	for n := 0; n <= api.MaxLan; n++ {
		for addr := -70; addr <= 140; addr++ {
			id := addr - 16*n
			on := id >= 1 && id <= 15
			if addr == 0 {
				on, id = true, 0
			}
			p := New(self, n)
			h := api.Hello{Every: 2, Dead: 8, Dr: addr}
			if got := p.Hear(2, h, 0); got.Taken != on {
				t.Errorf("network %d, Dr %d: %v", n, addr, got)
			}
			if got, is := p.Get(2); is != on || is && (got.Dr != id || got.Bdr != 0) {
				t.Errorf("network %d, Dr %d: %v, %v", n, addr, got, is)
			}
			p = New(self, n)
			h = api.Hello{Every: 2, Dead: 8, Bdr: addr}
			if got := p.Hear(2, h, 0); got.Taken != on {
				t.Errorf("network %d, Bdr %d: %v", n, addr, got)
			}
			if got, is := p.Get(2); is != on || is && (got.Bdr != id || got.Dr != 0) {
				t.Errorf("network %d, Bdr %d: %v, %v", n, addr, got, is)
			}
		}
	}
}

// P12.1: every router hears all others, and not itself; it is heard where its own number is listed.
func TestHearSelf(t *testing.T) {
	for me := 1; me <= 15; me++ {
		for from := 1; from <= 15; from++ {
			p := New(me, lan)
			want := api.Heard{Taken: true, Fresh: true, Two: true, Bears: true}
			if from == me {
				want = api.Heard{}
			}
			hears(t, "it is listed", p, from, hello(1, 0, 0, me), 0, want)
			want.Fresh, want.Two, want.One = false, false, want.Two
			hears(t, "it is listed no longer", p, from, hello(1, 0, 0, me+1, me-1, -me), 1, want)
		}
	}
}

// R1: a list of nobody's, or of no network, ends and doesn't panic; there are no addresses on what is no network.
func TestNewOfNone(t *testing.T) {
	for _, n := range []int{-1, 4, 5, 64, 1 << 60, 1<<60 + 2, math.MinInt64, math.MaxInt64} {
		p := New(self, n)
		hears(t, "an address", p, 2, api.Hello{Every: 2, Dead: 8, Dr: api.Addr(n, 3)}, 0, api.Heard{})
		hears(t, "an address", p, 2, api.Hello{Every: 2, Dead: 8, Bdr: api.Addr(n, 3)}, 0, api.Heard{})
		hears(t, "an address", p, 2, hello(1, 3, 0), 0, api.Heard{})
		has(t, "an address", p)
		hears(t, "no address", p, 2, hello(1, 0, 0, self), 0, api.Heard{Taken: true, Fresh: true, Two: true, Bears: true})
	}
	for _, n := range strange() {
		p := New(n, lan)
		for from := -1; from <= 17; from++ {
			want := api.Heard{}
			if from >= 1 && from <= 15 {
				want = api.Heard{Taken: true, Fresh: true}
			}
			hears(t, "of nobody's list", p, from, hello(1, 3, 0), 0, want)
		}
	}
}

// P12.1: Two and One each way, of a neighbor that lists this router and one that doesn't, by turns.
func TestTwoAndOne(t *testing.T) {
	p := New(self, lan)
	heard, not := hello(1, 0, 0, self), hello(1, 0, 0, 3)
	hears(t, "never", p, 2, not, 0, api.Heard{Taken: true, Fresh: true})
	hears(t, "never still", p, 2, not, 1, api.Heard{Taken: true})
	hears(t, "it does", p, 2, heard, 2, api.Heard{Taken: true, Two: true, Bears: true})
	hears(t, "it does still", p, 2, heard, 3, api.Heard{Taken: true, Two: true})
	hears(t, "no longer", p, 2, not, 4, api.Heard{Taken: true, One: true, Bears: true})
	hears(t, "no longer still", p, 2, not, 5, api.Heard{Taken: true})
	hears(t, "it does again", p, 2, heard, 6, api.Heard{Taken: true, Two: true, Bears: true})
	hears(t, "another one", p, 3, not, 7, api.Heard{Taken: true, Fresh: true})
	hears(t, "it does, whatever the other one says", p, 2, heard, 8, api.Heard{Taken: true, Two: true})
	has(t, "behind all", p, api.Peer{Id: 2, Prio: 1, State: 1, Two: true, At: 8}, api.Peer{Id: 3, Prio: 1, State: 1, At: 7})
}

// P12.1: each cause for an election alone, and changes that are none, of one that heard this router: 2, of priority 1.
func TestBears(t *testing.T) {
	for _, x := range []struct {
		name     string
		was, now api.Hello
		bears    bool
	}{
		{"nothing", hello(1, 5, 6), hello(1, 5, 6), false},
		{"a greater priority", hello(1, 5, 6), hello(2, 5, 6), true},
		{"a lower priority", hello(1, 5, 6), hello(0, 5, 6), true},
		{"a priority that it hadn't", hello(0, 5, 6), hello(1, 5, 6), true},
		{"a priority a byte beyond", hello(1, 5, 6), hello(257, 5, 6), true},
		{"it comes to take itself for designated", hello(1, 5, 6), hello(1, 2, 6), true},
		{"it did, and doesn't", hello(1, 2, 6), hello(1, 5, 6), true},
		{"it did, and takes nobody", hello(1, 2, 6), hello(1, 0, 6), true},
		{"nobody was, it is", hello(1, 0, 6), hello(1, 2, 6), true},
		{"it takes itself for designated still", hello(1, 2, 6), hello(1, 2, 6), false},
		{"it comes to take itself for the backup", hello(1, 5, 6), hello(1, 5, 2), true},
		{"it did, and takes another one for it", hello(1, 5, 2), hello(1, 5, 6), true},
		{"it did, and takes nobody for it", hello(1, 5, 2), hello(1, 5, 0), true},
		{"nobody was the backup, it is", hello(1, 5, 0), hello(1, 5, 2), true},
		{"it takes itself for the backup still", hello(1, 5, 2), hello(1, 5, 2), false},
		{"it was designated, and is the backup", hello(1, 2, 6), hello(1, 5, 2), true},
		{"it was the backup, and is designated", hello(1, 5, 2), hello(1, 2, 5), true},
		{"it was designated, and is both", hello(1, 2, 6), hello(1, 2, 2), true},
		{"it was both, and is the backup", hello(1, 2, 2), hello(1, 6, 2), true},
		{"it was both, and is neither", hello(1, 2, 2), hello(1, 6, 5), true},
		{"both still", hello(1, 2, 2), hello(1, 2, 2), false},
		{"another one is designated", hello(1, 5, 6), hello(1, 7, 6), false},
		{"another one is the backup", hello(1, 5, 6), hello(1, 5, 7), false},
		{"others are both", hello(1, 5, 6), hello(1, 7, 8), false},
		{"they changed places", hello(1, 5, 6), hello(1, 6, 5), false},
		{"nobody is either any more", hello(1, 5, 6), hello(1, 0, 0), false},
		{"nobody was either", hello(1, 0, 0), hello(1, 5, 6), false},
		{"this router is designated", hello(1, 5, 6), hello(1, self, 6), false},
		{"this router is the backup", hello(1, 5, 6), hello(1, 5, self), false},
		{"this router isn't both any more", hello(1, self, self), hello(1, 5, 6), false},
		{"it is designated, another one is the backup", hello(1, 2, 6), hello(1, 2, 7), false},
		{"it is the backup, another one is designated", hello(1, 5, 2), hello(1, 7, 2), false},
	} {
		for _, wasTwo := range []bool{false, true} {
			for _, isTwo := range []bool{false, true} {
				p := New(self, lan)
				was, now := x.was, x.now
				if wasTwo {
					was.Seen = []int{1, self}
				}
				if isTwo {
					now.Seen = []int{self, 9}
				}
				p.Hear(2, was, 0)
				want := api.Heard{Taken: true, Two: isTwo, One: wasTwo && !isTwo, Bears: wasTwo != isTwo || wasTwo && x.bears}
				hears(t, x.name, p, 2, now, 1, want)
				has(t, x.name, p, api.Peer{Id: 2, Prio: now.Prio, Dr: max(now.Dr-32, 0), Bdr: max(now.Bdr-32, 0), State: 1, Two: isTwo, At: 1})
			}
		}
	}
}

// P12.1: whom another neighbor takes for both is of no account: what bears is told of each one by itself.
func TestBearsEachAlone(t *testing.T) {
	p := New(self, lan)
	hears(t, "2", p, 2, hello(1, 3, 2, self), 0, api.Heard{Taken: true, Fresh: true, Two: true, Bears: true})
	hears(t, "3", p, 3, hello(1, 2, 3, self), 0, api.Heard{Taken: true, Fresh: true, Two: true, Bears: true})
	hears(t, "2 takes 3 for both", p, 2, hello(1, 3, 3, self), 1, api.Heard{Taken: true, Two: true, Bears: true})
	hears(t, "3 takes 2 for both", p, 3, hello(1, 2, 2, self), 1, api.Heard{Taken: true, Two: true, Bears: true})
	hears(t, "2 takes 1 for both", p, 2, hello(1, 1, 1, self), 2, api.Heard{Taken: true, Two: true})
	hears(t, "3 takes 1 for both", p, 3, hello(1, 1, 1, self), 2, api.Heard{Taken: true, Two: true})
}

// P12.1: a Hello leaves the state that was set, one that is heard, or no longer, too.
func TestHearLeavesState(t *testing.T) {
	for state := 0; state <= 6; state++ {
		p := New(self, lan)
		p.Hear(2, hello(1, 0, 0), 0)
		if !p.Set(2, state) {
			t.Errorf("Set(2, %d) = false", state)
		}
		hears(t, "it heard", p, 2, hello(1, 0, 0, self), 1, api.Heard{Taken: true, Two: true, Bears: true})
		has(t, "it heard", p, api.Peer{Id: 2, Prio: 1, State: state, Two: true, At: 1})
		hears(t, "no longer", p, 2, hello(9, 2, 2), 2, api.Heard{Taken: true, One: true, Bears: true})
		has(t, "no longer", p, api.Peer{Id: 2, Prio: 9, Dr: 2, Bdr: 2, State: state, At: 2})
	}
}

// P12.1: one that comes again behind a Drop is a new one: nothing of what it was is left.
func TestDropAndBack(t *testing.T) {
	p := New(self, lan)
	p.Hear(2, hello(5, 2, 3, self), 0)
	p.Hear(3, hello(6, 2, 3, self), 1)
	p.Set(2, api.NFull)
	if !p.Drop(2) || p.Drop(2) {
		t.Error("Drop(2) isn't true once")
	}
	has(t, "without 2", p, api.Peer{Id: 3, Prio: 6, Dr: 2, Bdr: 3, State: 1, Two: true, At: 1})
	lates(t, p, 100, 3)
	if p.Set(2, api.NTwo) {
		t.Error("a dropped one's state was set")
	}
	hears(t, "back, not heard", p, 2, hello(5, 2, 3), 9, api.Heard{Taken: true, Fresh: true})
	has(t, "back", p, api.Peer{Id: 2, Prio: 5, Dr: 2, Bdr: 3, State: 1, At: 9}, api.Peer{Id: 3, Prio: 6, Dr: 2, Bdr: 3, State: 1, Two: true, At: 1})
	p.Drop(2)
	hears(t, "back, heard", p, 2, hello(5, 2, 3, self), 10, api.Heard{Taken: true, Fresh: true, Two: true, Bears: true})
	if !p.Drop(3) || !p.Drop(2) {
		t.Error("Drop of one that is there is false")
	}
	has(t, "nobody", p)
}

// full answers a list with all neighbors that there may be; that of number n was heard at tick n, the odd ones heard this router.
func full() (*Peers, []api.Peer) {
	p := New(self, lan)
	var l []api.Peer
	for id := 1; id <= 15; id++ {
		if id == self {
			continue
		}
		x := api.Peer{Id: id, Prio: 100 + id, Dr: 16 - id, Bdr: id / 2, State: 1, Two: id%2 == 1, At: id}
		h := hello(x.Prio, x.Dr, x.Bdr, 2)
		if x.Two {
			h.Seen = append(h.Seen, self)
		}
		p.Hear(id, h, id)
		l = append(l, x)
	}
	return p, l
}

// P12.1: Drop, Get and Set of each that is there, and of numbers that are nobody's.
func TestEachAlone(t *testing.T) {
	for id := -1; id <= 17; id++ {
		p, l := full()
		at := slices.IndexFunc(l, func(x api.Peer) bool { return x.Id == id })
		if got := p.Set(id, api.NLoad); got != (at >= 0) {
			t.Errorf("Set(%d, 5) = %v", id, got)
		}
		if at >= 0 {
			l[at].State = api.NLoad
		}
		has(t, "set", p, l...)
		if got := p.Drop(id); got != (at >= 0) {
			t.Errorf("Drop(%d) = %v", id, got)
		}
		if at >= 0 {
			l = slices.Delete(l, at, at+1)
		}
		has(t, "dropped", p, l...)
	}
	p, l := full()
	for _, id := range append(strange(), self) {
		if x, is := p.Get(id); is || x != (api.Peer{}) {
			t.Errorf("Get(%d) = %v, %v", id, x, is)
		}
		if p.Drop(id) || p.Set(id, 3) {
			t.Errorf("Drop or Set of %d", id)
		}
	}
	has(t, "numbers that are nobody's", p, l...)
}

// P12.1: each state is set, from each one; what is no state isn't.
func TestSetStates(t *testing.T) {
	p := New(self, lan)
	p.Hear(2, hello(1, 0, 0), 0)
	for from := 0; from <= 6; from++ {
		for to := 0; to <= 6; to++ {
			if !p.Set(2, from) || !p.Set(2, to) {
				t.Errorf("Set(2, %d), Set(2, %d): false", from, to)
			}
			has(t, "set", p, api.Peer{Id: 2, Prio: 1, State: to})
		}
		p.Set(2, from)
		for _, bad := range []int{-1, 7, 8, -2, -7, 256, 257, 1 << 32, 1<<32 + 1, math.MinInt64, math.MaxInt64} {
			if p.Set(2, bad) || p.Set(3, bad) {
				t.Errorf("Set of state %d: true", bad)
			}
			has(t, "no state", p, api.Peer{Id: 2, Prio: 1, State: from})
		}
	}
}

// P12.1: one is late 8 ticks behind its Hello, not 7, and is late on; it is so until it is heard, and it stays a neighbor.
func TestLate(t *testing.T) {
	p := New(self, lan)
	p.Hear(2, hello(1, 0, 0), 10)
	for now := -5; now <= 40; now++ {
		if now >= 18 {
			lates(t, p, now, 2)
		} else {
			lates(t, p, now)
		}
	}
	has(t, "late", p, api.Peer{Id: 2, Prio: 1, State: 1, At: 10})
	hears(t, "a Hello that isn't taken", p, 2, api.Hello{}, 18, api.Heard{})
	lates(t, p, 18, 2)
	hears(t, "heard", p, 2, hello(1, 0, 0), 18, api.Heard{Taken: true})
	lates(t, p, 18)
	lates(t, p, 25)
	lates(t, p, 26, 2)
	hears(t, "a tick that goes back", p, 2, hello(1, 0, 0), 3, api.Heard{Taken: true})
	lates(t, p, 10)
	lates(t, p, 11, 2)
	p.Set(2, api.NDown)
	lates(t, p, 11, 2)
	p.Drop(2)
	lates(t, p, 11)
}

// P12.1: of many, those that are late, rising, in whatever order they were heard.
func TestLateMany(t *testing.T) {
	p, l := full()
	for now := -3; now <= 30; now++ {
		var want []int
		for _, x := range l {
			if now-x.At >= 8 {
				want = append(want, x.Id)
			}
		}
		lates(t, p, now, want...)
	}
	has(t, "late", p, l...)
	probe.Turns([]int{9, 2, 15, 1, 7}, func(ids []int) {
		p := New(self, lan)
		for i, id := range ids {
			p.Hear(id, hello(1, 0, 0), i)
		}
		for gone := 0; gone <= 5; gone++ {
			want := slices.Clone(ids[:gone])
			slices.Sort(want)
			lates(t, p, 7+gone, want...)
		}
	})
}

// P12.1, R1: ticks that lie as far apart as ticks may.
func TestLateFarApart(t *testing.T) {
	for _, x := range []struct {
		at, now int
		late    bool
	}{
		{math.MinInt64, math.MinInt64, false},
		{math.MinInt64, math.MinInt64 + 7, false},
		{math.MinInt64, math.MinInt64 + 8, true},
		{math.MinInt64, 0, true},
		{math.MinInt64, math.MaxInt64, true},
		{-4, 3, false},
		{-4, 4, true},
		{0, math.MinInt64, false},
		{0, math.MaxInt64, true},
		{1, math.MinInt64, false},
		{math.MaxInt64 - 7, math.MaxInt64, false},
		{math.MaxInt64 - 8, math.MaxInt64, true},
		{math.MaxInt64, math.MaxInt64, false},
		{math.MaxInt64, math.MinInt64, false},
		{math.MaxInt64, math.MinInt64 + 7, false},
		{math.MaxInt64 - 4, math.MinInt64 + 3, false},
		{math.MaxInt64 - 4, math.MinInt64 + 4, false},
		{math.MaxInt64, -1, false},
		{5, -5, false},
	} {
		p := New(self, lan)
		p.Hear(2, hello(1, 0, 0), x.at)
		if got := len(p.Late(x.now)) == 1; got != x.late {
			t.Errorf("heard at %d, late at %d: %v", x.at, x.now, got)
		}
	}
}

// P12.2: All, Seen and Cands are by numbers, in whatever order neighbors came; who didn't hear this router is no candidate.
func TestOrders(t *testing.T) {
	probe.Turns([]int{15, 3, 8, 1, 12, 5}, func(ids []int) {
		p := New(self, lan)
		for _, id := range ids {
			h := hello(id, id, 0, 1, 2)
			if id%2 == 1 {
				h.Seen = []int{4}
			}
			p.Hear(id, h, id)
		}
		has(t, "some", p,
			api.Peer{Id: 1, Prio: 1, Dr: 1, State: 1, Two: true, At: 1},
			api.Peer{Id: 3, Prio: 3, Dr: 3, State: 1, Two: true, At: 3},
			api.Peer{Id: 5, Prio: 5, Dr: 5, State: 1, Two: true, At: 5},
			api.Peer{Id: 8, Prio: 8, Dr: 8, State: 1, At: 8},
			api.Peer{Id: 12, Prio: 12, Dr: 12, State: 1, At: 12},
			api.Peer{Id: 15, Prio: 15, Dr: 15, State: 1, Two: true, At: 15})
	})
	p, l := full()
	has(t, "all that there may be", p, l...)
}

// P12.2: a candidate is one whatever its state, and its priority; it is none from when it no longer hears this router.
func TestCands(t *testing.T) {
	p := New(self, lan)
	p.Hear(2, hello(0, 3, 5, self), 0)
	for state := 0; state <= 6; state++ {
		p.Set(2, state)
		if got := p.Cands(); !slices.Equal(got, []api.Cand{{Id: 2, Dr: 3, Bdr: 5}}) {
			t.Errorf("state %d: Cands() = %v", state, got)
		}
	}
	p.Hear(2, hello(0, 3, 5), 1)
	for state := 0; state <= 6; state++ {
		p.Set(2, state)
		if got := p.Cands(); len(got) != 0 {
			t.Errorf("state %d: Cands() = %v", state, got)
		}
	}
}

// P12.2: a nil list answers nothing, whatever it is asked.
func TestNil(t *testing.T) {
	var p *Peers
	for id := -1; id <= 17; id++ {
		hears(t, "nil", p, id, hello(1, 0, 0, self, 0), id, api.Heard{})
		if p.Drop(id) || p.Set(id, 1) {
			t.Error("nil: Drop or Set is true")
		}
	}
	lates(t, p, 0)
	lates(t, p, math.MaxInt64)
	has(t, "nil", p)
}

// model is a list told another way: by a map.
type model struct {
	self, lan int
	by        map[int]api.Peer
}

// hear answers what a Hello leads to, told another way.
func (m *model) hear(from int, h api.Hello, now int) api.Heard {
	numbers := map[int]int{0: 0}
	for id := 1; id <= 15; id++ {
		numbers[m.lan*16+id] = id
	}
	dr, drOk := numbers[h.Dr]
	bdr, bdrOk := numbers[h.Bdr]
	if h.Every != 2 || h.Dead != 8 || !drOk || !bdrOk || from < 1 || from > 15 || from == m.self {
		return api.Heard{}
	}
	was, known := m.by[from]
	is := api.Peer{Id: from, Prio: h.Prio, Dr: dr, Bdr: bdr, State: 1, At: now}
	if known {
		is.State = was.State
	}
	for _, id := range h.Seen {
		is.Two = is.Two || id == m.self
	}
	bears := is.Two != was.Two
	if is.Two && known {
		bears = bears || is.Prio != was.Prio || (is.Dr == from) != (was.Dr == from) || (is.Bdr == from) != (was.Bdr == from)
	}
	m.by[from] = is
	return api.Heard{Taken: true, Fresh: !known, Two: is.Two, One: was.Two && !is.Two, Bears: bears}
}

// all answers the neighbors by their numbers, told another way.
func (m *model) all() []api.Peer {
	var l []api.Peer
	for id := range 16 {
		if x, is := m.by[id]; is {
			l = append(l, x)
		}
	}
	return l
}

// dice takes numbers from bytes, one by one.
type dice struct{ b []byte }

func (d *dice) below(n int) int {
	x := int(d.b[0])
	d.b = d.b[1:]
	return x % n
}

// said answers a Hello of small numbers, mostly one that is taken.
func (d *dice) said(lan int) api.Hello {
	h := api.Hello{Every: 2, Dead: 8, Prio: d.below(3)}
	if d.below(20) == 0 {
		h.Every = d.below(5)
	}
	if d.below(20) == 0 {
		h.Dead = d.below(12)
	}
	to := lan
	if d.below(20) == 0 {
		to = d.below(5)
	}
	if d.below(3) > 0 {
		h.Dr = to*16 + d.below(6)
	}
	if d.below(3) > 0 {
		h.Bdr = to*16 + d.below(6)
	}
	for range d.below(5) {
		h.Seen = append(h.Seen, d.below(6))
	}
	return h
}

// P12.1, P12.2, R5: many calls without a plain rule, on two lists, are answered as the model answers them, and alike.
func TestMixed(t *testing.T) {
	for seed := range 60 {
		d := &dice{probe.Mixed(20*400, seed)}
		me, n := 1+seed%5, seed%4
		p, q := New(me, n), New(me, n)
		m := &model{me, n, map[int]api.Peer{}}
		now := 0
		for range 400 {
			id := d.below(8) - 1
			switch d.below(8) {
			case 0:
				now += d.below(10) - 3
			case 1:
				_, want := m.by[id]
				delete(m.by, id)
				if p.Drop(id) != want || q.Drop(id) != want {
					t.Fatalf("seed %d: Drop(%d) isn't %v", seed, id, want)
				}
			case 2:
				state := d.below(9) - 1
				x, want := m.by[id]
				if want = want && state >= 0 && state <= 6; want {
					x.State = state
					m.by[id] = x
				}
				if p.Set(id, state) != want || q.Set(id, state) != want {
					t.Fatalf("seed %d: Set(%d, %d) isn't %v", seed, id, state, want)
				}
			default:
				h := d.said(n)
				want := m.hear(id, h, now)
				hears(t, "mixed", p, id, h, now, want)
				hears(t, "mixed, again", q, id, h, now, want)
			}
			has(t, "mixed", p, m.all()...)
			has(t, "mixed, again", q, m.all()...)
			var late []int
			for _, x := range m.all() {
				if now-x.At > 7 {
					late = append(late, x.Id)
				}
			}
			lates(t, p, now, late...)
			if t.Failed() {
				t.Fatalf("seed %d", seed)
			}
		}
	}
}

// R4: what a Hello lists stays as it was, spare room included, and isn't kept.
func TestHelloStays(t *testing.T) {
	p := New(self, lan)
	seen, whole := probe.Roomy([]int{9, 3, self}, 5, self)
	was := slices.Clone(whole)
	p.Hear(2, api.Hello{Every: 2, Dead: 8, Seen: seen}, 0)
	p.Hear(2, api.Hello{Every: 3, Dead: 8, Seen: seen}, 0)
	if !slices.Equal(whole, was) {
		t.Errorf("the Hello's list is %v, was %v", whole, was)
	}
	probe.Scribble(whole, 13)
	has(t, "scribbled", p, api.Peer{Id: 2, State: 1, Two: true})
	only, _ := probe.Roomy([]int{3}, 5, self)
	hears(t, "what is in the spare room isn't listed", p, 2, api.Hello{Every: 2, Dead: 8, Seen: only}, 1, api.Heard{Taken: true, One: true, Bears: true})
}

// R4: what was answered may be written all over, and changes nothing in the list, nor in another answer.
func TestAnswersAreNew(t *testing.T) {
	p, l := full()
	all, seen, cands, late := p.All(), p.Seen(), p.Cands(), p.Late(100)
	probe.Scribble(p.All(), api.Peer{Id: -1, State: 6, Two: true})
	probe.Scribble(p.Seen(), -1)
	probe.Scribble(p.Cands(), api.Cand{Id: -1})
	probe.Scribble(p.Late(100), -1)
	x, _ := p.Get(2)
	x.State, x.At, x.Two = 6, 77, true
	has(t, "scribbled", p, l...)
	lates(t, p, 100, 1, 2, 3, 5, 6, 7, 8, 9, 10, 11, 12, 13, 14, 15)
	q, _ := full()
	if !slices.Equal(all, q.All()) || !slices.Equal(seen, q.Seen()) || !slices.Equal(cands, q.Cands()) || !slices.Equal(late, q.Late(100)) {
		t.Error("an earlier answer is another one")
	}
	p.Set(2, 6)
	p.Drop(3)
	p.Hear(5, hello(9, 5, 5), 99)
	if !slices.Equal(all, q.All()) || !slices.Equal(seen, q.Seen()) || !slices.Equal(cands, q.Cands()) || !slices.Equal(late, q.Late(100)) {
		t.Error("an earlier answer follows the list")
	}
}

// R4, R5: two lists share nothing, and asking changes nothing.
func TestTwoLists(t *testing.T) {
	p, l := full()
	q, _ := full()
	r := New(self, lan)
	for id := 1; id <= 15; id++ {
		q.Set(id, api.NFull)
		q.Hear(id, hello(1, 0, 0), 50)
		q.Drop(id)
	}
	has(t, "the other one", p, l...)
	has(t, "the other one, again", p, l...)
	has(t, "emptied", q)
	has(t, "a new one", r)
}
