package acks

import (
	"math"
	"slices"
	"testing"

	"syndic/api"
	"syndic/probe"
)

// head answers the head of a router's description.
func head(id int) api.Head { return api.Head{Kind: api.Router, Id: id, Adv: id} }

// rising answers n heads of keys of their own, in the order of keys.
func rising(n int) []api.Head { return probe.HeadsOf(probe.Rising(n)) }

// apart answers heads that differ from one in one field alone, each of the seven.
func apart(h api.Head) []api.Head {
	var out []api.Head
	for _, by := range []int{-1, 1, 256, 1 << 32, math.MinInt64} {
		for _, field := range []func(*api.Head) *int{
			func(h *api.Head) *int { return &h.Age },
			func(h *api.Head) *int { return &h.Kind },
			func(h *api.Head) *int { return &h.Id },
			func(h *api.Head) *int { return &h.Adv },
			func(h *api.Head) *int { return &h.Seq },
			func(h *api.Head) *int { return &h.Sum },
			func(h *api.Head) *int { return &h.Long },
		} {
			other := h
			*field(&other) += by
			out = append(out, other)
		}
	}
	return out
}

// lans answers the networks that there are, and some that there aren't.
func lans() []int {
	return []int{0, 1, 2, 3, 4, 16, -1, -2, 256, 1 << 32, 1<<32 + 1, math.MaxInt64, math.MinInt64}
}

// with answers what is acknowledged later, of which one network has these heads.
func with(lan int, heads ...api.Head) *Acks {
	a := New()
	a.Later(lan, heads...)
	return a
}

// has holds how many are acknowledged later on a network, however often it is asked.
func has(t *testing.T, name string, a *Acks, lan, want int) {
	t.Helper()
	for range 2 {
		if got := a.Len(lan); got != want {
			t.Errorf("%s: Len(%d) = %d, want %d", name, lan, got, want)
		}
	}
}

// later holds how many are acknowledged later on a network behind Later.
func later(t *testing.T, name string, a *Acks, lan, want int, heads ...api.Head) {
	t.Helper()
	if got := a.Later(lan, heads...); got != want {
		t.Errorf("%s: Later(%d, %v) = %d, want %d", name, lan, heads, got, want)
	}
	has(t, name, a, lan, want)
}

// pieces answers the pieces that heads are taken in; none, if there are none.
func pieces(heads []api.Head) [][]api.Head {
	if len(heads) == 0 {
		return nil
	}
	return probe.Triples(heads)
}

// alike tells whether two lists of pieces are the same.
func alike(a, b [][]api.Head) bool {
	return slices.EqualFunc(a, b, func(x, y []api.Head) bool { return slices.Equal(x, y) })
}

// takes holds that just these heads are taken of a network, in this order and in pieces, and that there are none behind it.
func takes(t *testing.T, name string, a *Acks, lan int, want ...api.Head) {
	t.Helper()
	has(t, name+", not yet taken", a, lan, len(want))
	if got := a.Take(lan); !alike(got, pieces(want)) {
		t.Errorf("%s: Take(%d) = %v, want %v", name, lan, got, pieces(want))
	}
	none(t, name+", taken", a, lan)
}

// drops holds how many are dropped of a network, and that there are none behind it.
func drops(t *testing.T, name string, a *Acks, lan, want int) {
	t.Helper()
	has(t, name+", not yet dropped", a, lan, want)
	if got := a.Drop(lan); got != want {
		t.Errorf("%s: Drop(%d) = %d, want %d", name, lan, got, want)
	}
	none(t, name+", dropped", a, lan)
}

// none holds that nothing is acknowledged later on a network.
func none(t *testing.T, name string, a *Acks, lan int) {
	t.Helper()
	for range 2 {
		has(t, name, a, lan, 0)
		if got := a.Take(lan); len(got) != 0 {
			t.Errorf("%s: Take(%d) = %v, want none", name, lan, got)
		}
		if got := a.Drop(lan); got != 0 {
			t.Errorf("%s: Drop(%d) = %d, want 0", name, lan, got)
		}
	}
}

// acknowledged holds when something is acknowledged, however often it is asked.
func acknowledged(t *testing.T, state int, dr bool, became, want int) {
	t.Helper()
	for range 2 {
		if got := Way(state, dr, became); got != want {
			t.Errorf("Way(%d, %v, %d) = %d, want %d", state, dr, became, got, want)
		}
	}
}

// states answers the states of a router on a network, and some that there aren't; the lowest bits of some are like those of others.
func states() []int {
	return []int{
		api.IDown, api.IWaiting, api.IOther, api.IBackup, api.IDr,
		5, 6, 7, 11, 19, 259, 65539, 1<<32 + 3, -1, -2, -3, -4, -5, -253, math.MinInt64, math.MinInt64 + 3, math.MaxInt64,
	}
}

// strange answers what becomes of no description; the lowest bits of some are like those of what does.
func strange() []int {
	return []int{
		5, 6, 7, 8, 9, 10, 11, 12, 16, 17, 20, 256, 257, 259, 1 << 32, 1<<32 + 1, 1<<32 + 3, math.MaxInt64,
		-1, -2, -3, -4, -5, -8, -252, -253, -255, math.MinInt64, math.MinInt64 + 1, math.MinInt64 + 3,
	}
}

// P17.1: the chapter's example.
func TestWayExample(t *testing.T) {
	acknowledged(t, api.IBackup, true, api.CNew, api.ALater)
}

// P17.1: the chapter's table, cell by cell, for each state.
func TestWayByTheTable(t *testing.T) {
	for _, c := range []struct{ became, fromDr, fromAnother, elsewhere int }{
		{api.CBack, api.ANone, api.ANone, api.ANone},
		{api.CNew, api.ALater, api.ANone, api.ALater},
		{api.CImplied, api.ALater, api.ANone, api.ANone},
		{api.CSame, api.ANow, api.ANow, api.ANow},
		{api.CGone, api.ANow, api.ANow, api.ANow},
	} {
		for _, state := range states() {
			if state == api.IBackup {
				acknowledged(t, state, true, c.became, c.fromDr)
				acknowledged(t, state, false, c.became, c.fromAnother)
				continue
			}
			acknowledged(t, state, true, c.became, c.elsewhere)
			acknowledged(t, state, false, c.became, c.elsewhere)
		}
	}
}

// P17.1: of what isn't from 0 to 4 nothing is acknowledged, whatever the state.
func TestWayOfNoSuchThing(t *testing.T) {
	for _, became := range strange() {
		for _, state := range states() {
			acknowledged(t, state, true, became, api.ANone)
			acknowledged(t, state, false, became, api.ANone)
		}
	}
}

// P17.2: of what is new nothing is acknowledged later on any network.
func TestNew(t *testing.T) {
	a := New()
	if a == nil {
		t.Fatal("New answers nil")
	}
	for _, lan := range lans() {
		none(t, "new", a, lan)
		later(t, "new", a, lan, 0)
	}
}

// P17.2: Later of none answers how many are acknowledged later, and changes nothing.
func TestLaterNone(t *testing.T) {
	for n := range 6 {
		all := rising(n)
		for _, lan := range lans() {
			a := with(1, all...)
			want := 0
			if lan == 1 {
				want = n
			}
			later(t, "none", a, lan, want)
			later(t, "none", a, lan, want, []api.Head{}...)
			later(t, "none", a, lan, want, nil...)
			takes(t, "none", a, 1, all...)
			none(t, "none", a, lan)
		}
	}
}

// P17.2: heads are taken in the order in which they came, in one call or in several, whatever that order is; one that came already stays where it is.
func TestLaterInAnyOrder(t *testing.T) {
	for n := range 7 {
		probe.Turns(rising(n), func(heads []api.Head) {
			a := New()
			later(t, "at once", a, 2, n, heads...)
			takes(t, "at once", a, 2, heads...)
			for i, h := range heads {
				later(t, "one by one", a, 2, i+1, h)
				later(t, "one by one, once more", a, 2, i+1, h)
				later(t, "the first one, once more", a, 2, i+1, heads[0])
			}
			takes(t, "one by one", a, 2, heads...)
			later(t, "in two calls", a, 2, n/2, heads[:n/2]...)
			later(t, "in two calls", a, 2, n, heads[n/2:]...)
			later(t, "the second half once more", a, 2, n, heads[n/2:]...)
			later(t, "all once more", a, 2, n, heads...)
			takes(t, "in two calls", a, 2, heads...)
		})
	}
}

// P17.2: however many there are, they are taken in pieces of three, the last one of what is left, as they came and not as their keys or numbers stand.
func TestTakeMany(t *testing.T) {
	for _, n := range []int{0, 1, 2, 3, 4, 5, 6, 7, 8, 9, 10, 39, 40, 41, 120, 1000} {
		all := rising(n)
		falling := slices.Clone(all)
		slices.Reverse(falling)
		for seed := range 5 {
			a := New()
			strewn := probe.Strewn(all, seed)
			later(t, "strewn", a, seed, n, strewn...)
			takes(t, "strewn", a, seed, strewn...)
			later(t, "rising", a, seed, n, all...)
			takes(t, "rising", a, seed, all...)
			later(t, "falling", a, seed, n, falling...)
			takes(t, "falling", a, seed, falling...)
		}
	}
}

// P17.2: how many pieces there are, and how many heads each one has.
func TestTakePieces(t *testing.T) {
	for n, want := range [][]int{{}, {1}, {2}, {3}, {3, 1}, {3, 2}, {3, 3}, {3, 3, 1}, {3, 3, 2}, {3, 3, 3}} {
		var got []int
		for _, p := range with(0, rising(n)...).Take(0) {
			got = append(got, len(p))
		}
		if !slices.Equal(got, want) {
			t.Errorf("Take of %d answers pieces of %v, want %v", n, got, want)
		}
	}
}

// P17.2: a head that comes twice, in one call or in several, is acknowledged once, at the place where it came first.
func TestLaterTwice(t *testing.T) {
	x, y, z := head(1), head(2), head(3)
	probe.Turns([]api.Head{x, y, y, z, z, z}, func(heads []api.Head) {
		var want []api.Head
		for _, h := range heads {
			if !slices.Contains(want, h) {
				want = append(want, h)
			}
		}
		a := New()
		later(t, "in one call", a, 3, 3, heads...)
		later(t, "in a second one", a, 3, 3, heads[3:]...)
		takes(t, "in one call", a, 3, want...)
		later(t, "a part", a, 3, len(slices.Compact(slices.Clone(heads[:2]))), heads[:2]...)
		later(t, "the whole", a, 3, 3, heads...)
		takes(t, "the whole", a, 3, want...)
	})
	a := New()
	for range 50 {
		later(t, "often", a, 3, 4, slices.Repeat([]api.Head{head(4), y, x, z}, 9)...)
	}
	takes(t, "often", a, 3, head(4), y, x, z)
}

// P17.2: heads that differ in one field alone, each of the seven, are acknowledged beside each other.
func TestHeadsApart(t *testing.T) {
	h := api.Head{Age: 7, Kind: 2, Id: 5, Adv: 9, Seq: 11, Sum: 13, Long: 28}
	others := apart(h)
	for _, other := range others {
		a := with(1, h)
		later(t, "two", a, 1, 2, other)
		later(t, "two, once more", a, 1, 2, other, h)
		takes(t, "two", a, 1, h, other)
		later(t, "the other one", a, 1, 1, other)
		later(t, "the first one behind it", a, 1, 2, h)
		takes(t, "the other way about", a, 1, other, h)
	}
	a := with(1, h)
	for i, other := range others {
		later(t, "all", a, 1, 2+i, other)
	}
	later(t, "all once more", a, 1, 1+len(others), others...)
	takes(t, "all", a, 1, append([]api.Head{h}, others...)...)
}

// P17.2: heads are acknowledged as they stand, whether or not there may be a description of them, none with all its numbers 0 left out.
func TestHeadsAsTheyStand(t *testing.T) {
	far := append(probe.Far(), api.Head{}, api.Head{Age: 60}, api.Head{Age: math.MinInt64, Sum: math.MaxInt64, Long: math.MinInt64})
	for seed := range 30 {
		strewn := probe.Strewn(far, seed)
		a := New()
		later(t, "far", a, 0, len(far), strewn...)
		takes(t, "far", a, 0, strewn...)
	}
	for _, h := range far {
		a := New()
		later(t, "alone", a, 2, 1, h)
		takes(t, "alone", a, 2, h)
		later(t, "alone", a, 2, 1, h)
		drops(t, "alone", a, 2, 1)
	}
}

// P17.2: each network has its own: the same head may be acknowledged on several, and what is taken or dropped of one leaves the others as they were.
func TestNetworksApart(t *testing.T) {
	shared := head(15)
	for seed := range 20 {
		a := New()
		order := probe.Strewn(lans(), seed)
		own := rising(len(order))
		for i, lan := range order {
			none(t, "nothing yet", a, lan)
			later(t, "shared", a, lan, 1, shared)
			later(t, "its own", a, lan, 2, own[i])
		}
		for i, lan := range order {
			later(t, "once more", a, lan, 2, own[i], shared)
			if (seed+i)%2 == 0 {
				takes(t, "one after another", a, lan, shared, own[i])
			} else {
				drops(t, "one after another", a, lan, 2)
			}
			for _, rest := range order[i+1:] {
				has(t, "another one", a, rest, 2)
			}
		}
	}
}

// P17.2: Take leaves what other networks have, and its order, as it was.
func TestTakeAndOthers(t *testing.T) {
	for _, n := range []int{0, 1, 2, 3, 4, 5, 6, 7, 40} {
		all := rising(n)
		a := New()
		for _, lan := range lans() {
			later(t, "each", a, lan, n, probe.Strewn(all, lan)...)
		}
		for i, lan := range lans() {
			takes(t, "each", a, lan, probe.Strewn(all, lan)...)
			for _, rest := range lans()[i+1:] {
				has(t, "another one", a, rest, n)
			}
		}
	}
}

// P17.2: what was taken or dropped may come again, and counts again, in the order in which it comes then.
func TestLaterBehindTakeAndDrop(t *testing.T) {
	for n := range 8 {
		all := rising(n)
		back := slices.Clone(all)
		slices.Reverse(back)
		a := with(1, all...)
		takes(t, "first", a, 1, all...)
		later(t, "behind Take", a, 1, n, back...)
		takes(t, "behind Take", a, 1, back...)
		later(t, "behind two", a, 1, n, all...)
		drops(t, "behind two", a, 1, n)
		later(t, "behind Drop", a, 1, n, back...)
		later(t, "behind Drop, one more", a, 1, n+1, head(14))
		takes(t, "behind Drop", a, 1, append(back, head(14))...)
	}
}

// P17.2: Drop tells how many were acknowledged later, 0 the second time, and leaves other networks.
func TestDrop(t *testing.T) {
	for _, n := range []int{0, 1, 2, 3, 4, 40, 300} {
		all := probe.Strewn(rising(n), n)
		for _, lan := range lans() {
			a := New()
			for _, other := range lans() {
				a.Later(other, all...)
			}
			drops(t, "once", a, lan, n)
			for _, other := range lans() {
				if other != lan {
					takes(t, "another one", a, other, all...)
				}
			}
		}
	}
}

// P17.2, R1: of a nil Acks nothing is acknowledged later, ever.
func TestNilAcks(t *testing.T) {
	var a *Acks
	for range 3 {
		for _, lan := range lans() {
			none(t, "nil", a, lan)
			later(t, "nil", a, lan, 0)
			later(t, "nil", a, lan, 0, head(1))
			later(t, "nil", a, lan, 0, head(2), head(1), head(2), api.Head{})
			none(t, "nil", a, lan)
		}
	}
}

// entry is a head that is acknowledged later on a network.
type entry struct {
	lan  int
	head api.Head
}

// sheet is what is acknowledged later on all networks told another way: entries side by side, as they came.
type sheet struct{ entries []entry }

// put adds heads of a network, and answers how many it has.
func (l *sheet) put(lan int, heads ...api.Head) int {
	for _, h := range heads {
		if e := (entry{lan, h}); !slices.Contains(l.entries, e) {
			l.entries = append(l.entries, e)
		}
	}
	return len(l.of(lan))
}

// of answers a network's heads as they came.
func (l *sheet) of(lan int) []api.Head {
	var out []api.Head
	for _, e := range l.entries {
		if e.lan == lan {
			out = append(out, e.head)
		}
	}
	return out
}

// clear takes off all of a network, and answers its heads as they came.
func (l *sheet) clear(lan int) []api.Head {
	out := l.of(lan)
	l.entries = slices.DeleteFunc(l.entries, func(e entry) bool { return e.lan == lan })
	return out
}

// anyHead answers one of a few heads.
func anyHead(b byte) api.Head {
	return api.Head{Age: int(b) % 2, Kind: int(b) / 2 % 2, Id: int(b) / 4 % 2, Seq: int(b) / 8 % 3}
}

// step makes one call, and the same of what is told another way.
func step(t *testing.T, a *Acks, l *sheet, what byte, lan int, heads ...api.Head) {
	t.Helper()
	switch what %= 32; {
	case what == 0:
		takes(t, "mixed", a, lan, l.clear(lan)...)
	case what == 1:
		drops(t, "mixed", a, lan, len(l.clear(lan)))
	default:
		later(t, "mixed", a, lan, l.put(lan, heads...), heads...)
	}
}

// P17.2, R5: many calls without a plain rule are answered as what is told another way.
func TestMixed(t *testing.T) {
	places := []int{0, 1, 3, 17}
	for seed := range 60 {
		a, l := New(), &sheet{}
		m := probe.Mixed(1200, seed)
		for i := 0; i < len(m); i += 4 {
			heads := []api.Head{anyHead(m[i+1]), anyHead(m[i+2]), anyHead(m[i+3])}
			step(t, a, l, m[i], places[m[i+1]>>4%4], heads[:m[i+2]>>4%4]...)
			for _, lan := range places {
				has(t, "mixed", a, lan, len(l.of(lan)))
			}
		}
		for _, lan := range places {
			takes(t, "mixed, at the end", a, lan, l.clear(lan)...)
		}
		if t.Failed() {
			t.Fatalf("seed %d", seed)
		}
	}
}

// P17.2: of a network on which nothing is acknowledged later any more nothing is kept.
func TestNothingIsKept(t *testing.T) {
	for n := range 5 {
		a := New()
		for i, lan := range lans() {
			a.Later(lan)
			a.Later(lan, rising(n)...)
			if i%2 == 0 {
				a.Take(lan)
			} else {
				a.Drop(lan)
			}
			a.Later(lan)
			if len(a.places) != 0 {
				t.Errorf("%v is kept", a.places)
			}
		}
	}
}

// R4: heads that are handed in stay as they were, spare room included, and aren't kept.
func TestHandedInStays(t *testing.T) {
	mark := api.Head{Kind: -1, Adv: math.MaxInt64}
	for n := range 14 {
		all := probe.Strewn(rising(n), n)
		heads, whole := probe.Roomy(slices.Concat(all, all), 5, head(99))
		was := slices.Clone(whole)
		a := New()
		later(t, "roomy", a, 1, n, heads...)
		later(t, "roomy, once more", a, 1, n, heads...)
		later(t, "roomy, on another network", a, 2, n, heads...)
		later(t, "roomy, on a third one", a, 3, n, heads...)
		takes(t, "roomy", a, 1, all...)
		drops(t, "roomy, on a third one", a, 3, n)
		if !slices.Equal(whole, was) {
			t.Errorf("what was handed in is %v by now, was %v", whole, was)
		}
		probe.Scribble(heads, mark)
		takes(t, "scribbled", a, 2, all...)
		later(t, "others in the same memory", a, 2, min(n, 1), heads...)
	}
}

// R4: what is taken may be written all over, pieces, their list and spare room, and changes no later answer, nor one that was given; later calls leave it as it is.
func TestAnsweredIsNew(t *testing.T) {
	mark := api.Head{Kind: -1}
	for n := range 14 {
		all := probe.Strewn(rising(n), n)
		a := New()
		for _, lan := range []int{0, 1, 2} {
			later(t, "new", a, lan, n, all...)
		}
		kept, scribbled := a.Take(0), a.Take(1)
		for _, p := range scribbled {
			probe.Scribble(p, mark)
		}
		probe.Scribble(scribbled, []api.Head{mark})
		later(t, "behind it", a, 1, n, all...)
		takes(t, "behind it", a, 1, all...)
		takes(t, "another network", a, 2, all...)
		if !alike(kept, pieces(all)) {
			t.Errorf("what was taken is %v by now, was %v", kept, pieces(all))
		}
	}
}

// R4: a piece that is appended to, or written all over with its spare room, leaves the other pieces as they are.
func TestPiecesApart(t *testing.T) {
	mark := api.Head{Kind: -1}
	for n := range 14 {
		all := rising(n)
		for i := range pieces(all) {
			got, want := with(0, all...).Take(0), pieces(all)
			_ = append(got[i], mark, mark, mark, mark)
			if !alike(got, want) {
				t.Errorf("piece %d of %d appended to: %v", i, n, got)
			}
			probe.Scribble(got[i], mark)
			got[i], want[i] = nil, nil
			if !alike(got, want) {
				t.Errorf("piece %d of %d written all over: %v", i, n, got)
			}
		}
	}
}

// R5: two Acks share nothing, and the same calls are answered alike, whatever was asked of others between.
func TestAcksApart(t *testing.T) {
	for n := range 12 {
		all := rising(n)
		strewn := probe.Strewn(all, n)
		a, b, other := New(), New(), with(2, all...)
		for i := range all {
			later(t, "one", a, 2, i+1, strewn[i])
			has(t, "another one", b, 2, i)
			later(t, "a third one", other, 3, i+1, head(900+i))
			later(t, "another one", b, 2, i+1, all[i])
		}
		drops(t, "a third one", other, 2, n)
		takes(t, "one", a, 2, strewn...)
		has(t, "another one", b, 2, n)
		later(t, "one", a, 2, 1, head(5))
		takes(t, "another one", b, 2, all...)
		takes(t, "one", a, 2, head(5))
		drops(t, "a third one", other, 3, n)
	}
}

// R5: the same calls in the same order are taken in the same order, however often they are made.
func TestSameAgain(t *testing.T) {
	all := probe.Strewn(rising(50), 3)
	for range 40 {
		takes(t, "again", with(1, all...), 1, all...)
	}
}
