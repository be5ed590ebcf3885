package exch

import (
	"math"
	"slices"
	"testing"

	"syndic/api"
	"syndic/probe"
)

// top is the greatest number of a piece.
const top = 1<<32 - 1

// told is all that an exchange tells of itself.
type told struct {
	said                api.Dd
	agreed, leads, done bool
	seq                 int
}

// first answers the piece with which an exchange begins.
func first(seq int) api.Dd { return api.Dd{Init: true, More: true, Master: true, Seq: seq} }

// flagged answers a piece by its three flags: 4 is Init, 2 More, 1 Master.
func flagged(flags, seq int, heads ...api.Head) api.Dd {
	return api.Dd{Init: flags&4 != 0, More: flags&2 != 0, Master: flags&1 != 0, Seq: seq, Heads: heads}
}

// some answers n heads that are nobody's here.
func some(n int) []api.Head { return probe.HeadsOf(probe.Rising(50 + n)[50:]) }

// sameDd tells whether two pieces are the same, with their heads.
func sameDd(a, b api.Dd) bool {
	heads := slices.Equal(a.Heads, b.Heads)
	a.Heads, b.Heads = nil, nil
	return heads && a.Init == b.Init && a.More == b.More && a.Master == b.Master && a.Seq == b.Seq
}

// asked answers all that an exchange tells of itself.
func asked(t *testing.T, name string, x *Exch) told {
	t.Helper()
	d, is := x.Say()
	if is != (x != nil) {
		t.Errorf("%s: Say() = %v, %v", name, d, is)
	}
	return told{d, x.Agreed(), x.Leads(), x.Done(), x.Seq()}
}

// tells holds all that an exchange tells of itself, however often it is asked.
func tells(t *testing.T, name string, x *Exch, want told) {
	t.Helper()
	for range 2 {
		got := asked(t, name, x)
		if !sameDd(got.said, want.said) {
			t.Errorf("%s: Say() = %+v, want %+v", name, got.said, want.said)
		}
		if got.agreed != want.agreed || got.leads != want.leads || got.done != want.done || got.seq != want.seq {
			t.Errorf("%s: Agreed, Leads, Done, Seq = %v, %v, %v, %d, want %v, %v, %v, %d", name, got.agreed, got.leads, got.done, got.seq, want.agreed, want.leads, want.done, want.seq)
		}
	}
}

// hears holds what comes of a piece.
func hears(t *testing.T, name string, x *Exch, d api.Dd, want int, l ...api.Lsa) {
	t.Helper()
	if got := x.Hear(d, l...); got != want {
		t.Errorf("%s: Hear(%+v) = %d, want %d", name, d, got, want)
	}
}

// stays holds what comes of a piece that changes nothing, however often it comes, whatever descriptions come with it.
func stays(t *testing.T, name string, x *Exch, d api.Dd, want int) {
	t.Helper()
	was := asked(t, name, x)
	hears(t, name, x, d, want)
	tells(t, name, x, was)
	hears(t, name+", again", x, d, want, probe.Rising(30)[9:]...)
	tells(t, name+", again", x, was)
}

// goes holds that a piece is taken, and all that is told behind it.
func goes(t *testing.T, name string, x *Exch, d api.Dd, want told, l ...api.Lsa) {
	t.Helper()
	hears(t, name, x, d, api.DTook, l...)
	tells(t, name, x, want)
}

// numbers answers numbers that New may be handed, and what they are modulo 2^32.
func numbers() map[int]int {
	return map[int]int{
		0: 0, 1: 1, 7: 7, 255: 255, 256: 256, 65536: 65536, 1<<31 - 1: 1<<31 - 1, 1 << 31: 1 << 31, 1<<31 + 1: 1<<31 + 1,
		1<<32 - 2: 1<<32 - 2, 1<<32 - 1: 1<<32 - 1, 1 << 32: 0, 1<<32 + 1: 1, 1<<32 + 7: 7, 1<<33 - 1: 1<<32 - 1, 1 << 33: 0, 3<<40 + 5: 5,
		-1: 1<<32 - 1, -2: 1<<32 - 2, -1 << 31: 1 << 31, -1<<32 + 1: 1, -1 << 32: 0, -1<<32 - 1: 1<<32 - 1, -5 << 40: 0,
		math.MaxInt64: 1<<32 - 1, math.MaxInt64 - 1: 1<<32 - 2, math.MinInt64: 0, math.MinInt64 + 9: 9,
	}
}

// strange answers numbers that no piece has.
func strange() []int {
	return []int{-1, -2, -20, -21, -1 << 31, -1 << 32, -1<<32 + 20, -1<<32 + 21, 1 << 32, 1<<32 + 1, 1<<32 + 20, 1<<32 + 21, 1<<32 + 22, 1<<33 - 1, 1 << 40, math.MaxInt64, math.MinInt64, math.MinInt64 + 20}
}

// pairs answers numbers of two, the lesser one first.
func pairs() [][2]int {
	return [][2]int{{1, 2}, {1, 15}, {14, 15}, {2, 10}, {0, 1}, {-1, 0}, {-15, 3}, {-9, -8}, {1, 1<<32 + 1}, {2, 1 << 32}, {math.MinInt64, math.MaxInt64}, {math.MinInt64, 1}, {-1, math.MaxInt64}}
}

// follower answers an exchange of 1 with 2 that follows, by a piece of this number.
func follower(t *testing.T, seq int, l ...api.Lsa) *Exch {
	t.Helper()
	x := New(1, 2, 7)
	hears(t, "a follower", x, first(seq), api.DTook, l...)
	return x
}

// leader answers an exchange of 2 with 1 that leads, whose number was this one.
func leader(t *testing.T, seq int, l ...api.Lsa) *Exch {
	t.Helper()
	x := New(2, 1, seq)
	hears(t, "a leader", x, flagged(2, seq, some(3)...), api.DTook, l...)
	return x
}

// P14.1: the chapter's example: 1 hears from 2 a piece with Init, and follows.
func TestChapterExample(t *testing.T) {
	x := New(1, 2, 7)
	tells(t, "new", x, told{said: first(7), seq: 7})
	goes(t, "heard", x, first(20), told{said: flagged(0, 20), agreed: true, seq: 20})
}

// P14.1: what is new says its first piece, isn't agreed on, and isn't done, whatever numbers it is of.
func TestNew(t *testing.T) {
	for seq, want := range numbers() {
		for _, n := range append(pairs(), [2]int{3, 3}, [2]int{0, 0}) {
			tells(t, "new", New(n[0], n[1], seq), told{said: first(want), seq: want})
			tells(t, "new, the other way about", New(n[1], n[0], seq), told{said: first(want), seq: want})
		}
	}
}

// P14.1: the number with which it begins is modulo 2^32 that of the piece by which it leads, too.
func TestNewNumbersLead(t *testing.T) {
	for seq, want := range numbers() {
		x := New(2, 1, seq)
		stays(t, "one less", x, flagged(0, (want-1)&top), api.DNone)
		stays(t, "one more", x, flagged(0, (want+1)&top), api.DNone)
		next := (want + 1) % (1 << 32)
		goes(t, "its own", x, flagged(0, want), told{said: flagged(1, next), agreed: true, leads: true, seq: next})
	}
}

// P14.1: a piece whose Seq isn't from 0 to 2^32 - 1 leads to nothing, whatever else it has, wherever the exchange is.
func TestStrangeNumbers(t *testing.T) {
	l := probe.Rising(7)
	done := leader(t, 20)
	goes(t, "done", done, flagged(0, 21), told{flagged(1, 21), true, true, true, 22})
	ended := follower(t, 20)
	goes(t, "done", ended, flagged(1, 21), told{flagged(0, 21), true, false, true, 21})
	for _, seq := range strange() {
		for flags := range 8 {
			for heads := range 2 {
				d := flagged(flags, seq, some(heads)...)
				for _, own := range []int{0, 20, 21, top, seq} {
					stays(t, "not agreed on, of a lesser number", New(1, 2, own), d, api.DNone)
					stays(t, "not agreed on, of a greater number", New(2, 1, own), d, api.DNone)
					stays(t, "not agreed on, of the same number", New(2, 2, own), d, api.DNone)
				}
				for _, own := range []int{0, 1, 20, 21, top - 1, top} {
					stays(t, "a follower", follower(t, own, l...), d, api.DNone)
					stays(t, "a leader", leader(t, own, l...), d, api.DNone)
				}
				stays(t, "a leader that is done", done, d, api.DNone)
				stays(t, "a follower that is done", ended, d, api.DNone)
			}
		}
	}
}

// P14.1: 0 and 2^32 - 1 are numbers of pieces as others are.
func TestNumbersAtTheEnds(t *testing.T) {
	for _, seq := range []int{0, 1, 1 << 31, top - 1, top} {
		next := (seq + 1) % (1 << 32)
		goes(t, "follows", New(1, 2, 7), first(seq), told{said: flagged(0, seq), agreed: true, seq: seq})
		goes(t, "leads", New(2, 1, seq), flagged(0, seq), told{said: flagged(1, next), agreed: true, leads: true, seq: next})
		x := follower(t, seq)
		stays(t, "the same", x, first(seq), api.DAgain)
		goes(t, "goes round", x, flagged(1, next), told{flagged(0, next), true, false, true, next})
		x = leader(t, seq)
		stays(t, "the same", x, flagged(2, seq), api.DNone)
		goes(t, "goes round", x, flagged(0, next), told{flagged(1, next), true, true, true, (seq + 2) % (1 << 32)})
	}
}

// P14.1: not agreed on, one whose number is below the other one's follows at a piece with Init, More and Master, without heads; at nothing else.
func TestFollows(t *testing.T) {
	for _, n := range pairs() {
		for flags := range 8 {
			for heads := range 4 {
				for _, seq := range []int{7, 0, 6, 8, 20, top} {
					d := flagged(flags, seq, some(heads)...)
					x := New(n[0], n[1], 7)
					if flags == 7 && heads == 0 {
						goes(t, "it follows", x, d, told{said: flagged(0, seq), agreed: true, seq: seq})
					} else {
						stays(t, "it doesn't follow", x, d, api.DNone)
					}
				}
			}
		}
	}
}

// P14.1: not agreed on, one whose number is above the other one's leads at a piece of its own number without Init and Master; at nothing else.
func TestLeads(t *testing.T) {
	for _, n := range pairs() {
		for flags := range 8 {
			for heads := range 4 {
				for _, seq := range []int{7, 0, 6, 8, 20, top} {
					d := flagged(flags, seq, some(heads)...)
					x := New(n[1], n[0], 7)
					if flags&5 == 0 && seq == 7 {
						goes(t, "it leads", x, d, told{said: flagged(1, 8), agreed: true, leads: true, seq: 8})
					} else {
						stays(t, "it doesn't lead", x, d, api.DNone)
					}
				}
			}
		}
	}
}

// P14.1: two of the same number never agree.
func TestSameNumber(t *testing.T) {
	for _, n := range []int{1, 15, 0, -1, math.MinInt64, math.MaxInt64} {
		x, y := New(n, n, 7), New(n, n, 7)
		for flags := range 8 {
			for heads := range 3 {
				for _, seq := range []int{7, 0, 6, 8, top} {
					stays(t, "of the same number", x, flagged(flags, seq, some(heads)...), api.DNone)
				}
			}
		}
		d, _ := y.Say()
		stays(t, "of each other", x, d, api.DNone)
		tells(t, "new still", x, told{said: first(7), seq: 7})
	}
}

// P14.1: what didn't lead to anything doesn't bear on what is agreed on later.
func TestNothingAhead(t *testing.T) {
	l := probe.Rising(4)
	for seed := range 40 {
		x, y := New(1, 2, 7), New(2, 1, 7)
		for _, b := range probe.Mixed(20, seed) {
			flags, seq := int(b)%8, 6+int(b)/8%3
			if flags != 7 {
				hears(t, "ahead", x, flagged(flags, seq), api.DNone, probe.Rising(9)...)
			}
			if flags&5 != 0 || seq != 7 {
				hears(t, "ahead", y, flagged(flags, seq), api.DNone, probe.Rising(9)...)
			}
		}
		goes(t, "follows", x, first(20), told{said: flagged(2, 20, probe.HeadsOf(l)[:3]...), agreed: true, seq: 20}, l...)
		goes(t, "leads", y, flagged(0, 7), told{said: flagged(3, 8, probe.HeadsOf(l)[:3]...), agreed: true, leads: true, seq: 8}, l...)
	}
}

// point is where an exchange may be, agreed on: the piece that was taken last, and the number of the next one that fits.
type point struct {
	name string
	make func() *Exch
	last api.Dd
	next int
}

// points answers such, of followers and leaders of some numbers, with heads left to say, and with none.
func points(t *testing.T) []point {
	var l []point
	for _, n := range []int{0, 1, 20, top - 2, top - 1, top} {
		one, two := (n+1)&top, (n+2)&top
		for _, left := range []int{0, 3, 4, 40} {
			has := probe.Rising(left)
			l = append(l,
				point{"a follower", func() *Exch { return follower(t, n, has...) }, first(n), one},
				point{"a leader", func() *Exch { return leader(t, n, has...) }, flagged(2, n), one},
				point{"a follower, further", func() *Exch {
					x := follower(t, n, has...)
					hears(t, "further", x, flagged(3, one), api.DTook)
					return x
				}, flagged(3, one), two},
				point{"a leader, further", func() *Exch {
					x := leader(t, n, has...)
					hears(t, "further", x, flagged(2, one), api.DTook)
					return x
				}, flagged(2, one), two},
			)
		}
	}
	return l
}

// ends answers where exchanges of both sides are that are done.
func ends(t *testing.T) []point {
	var l []point
	for _, n := range []int{0, 20, top - 1, top} {
		one := (n + 1) & top
		l = append(l,
			point{"a follower that is done", func() *Exch {
				x := follower(t, n, probe.Rising(3)...)
				hears(t, "done", x, flagged(1, one), api.DTook)
				return x
			}, flagged(1, one), (n + 2) & top},
			point{"a leader that is done", func() *Exch {
				x := leader(t, n, probe.Rising(3)...)
				hears(t, "done", x, flagged(0, one), api.DTook)
				return x
			}, flagged(0, one), (n + 2) & top},
		)
	}
	return l
}

// P14.1: the same piece as the last one leads to nothing, if it leads, and is answered again, if it follows; whatever heads it has, done or not.
func TestSamePiece(t *testing.T) {
	for _, p := range append(points(t), ends(t)...) {
		x := p.make()
		want := api.DAgain
		if x.Leads() {
			want = api.DNone
		}
		for heads := range 5 {
			d := p.last
			d.Heads = some(heads)
			stays(t, p.name+", the same", x, d, want)
		}
	}
}

// P14.1: agreed on, what isn't the same as the last one is taken just if it fits: no Init, Master just as it doesn't lead, the next number.
func TestFits(t *testing.T) {
	for _, p := range points(t) {
		for flags := range 8 {
			for step := -3; step <= 3; step++ {
				seq := (p.next + step) & top
				d := flagged(flags, seq, some((flags+step+3)%4)...)
				if d.Init == p.last.Init && d.More == p.last.More && d.Master == p.last.Master && seq == p.last.Seq {
					continue
				}
				x := p.make()
				if !d.Init && d.Master != x.Leads() && seq == p.next {
					hears(t, p.name+", it fits", x, d, api.DTook)
				} else {
					stays(t, p.name+", it doesn't fit", x, d, api.DBad)
				}
			}
		}
	}
}

// P14.1: each by itself: what doesn't fit changes nothing, and what fits is taken behind it as it would have been.
func TestBad(t *testing.T) {
	l := probe.Rising(5)
	h := probe.HeadsOf(l)
	x := follower(t, 20, l...)
	for _, c := range []struct {
		name string
		d    api.Dd
	}{
		{"it has Init", flagged(5, 21)},
		{"it has Init, of another number", flagged(7, 30)},
		{"it has Init, as the last one, and heads, and no More", flagged(5, 20, some(1)...)},
		{"it has no Master", flagged(0, 21)},
		{"it has no Master, but More", flagged(2, 21, some(3)...)},
		{"its Seq is the own number", flagged(1, 20)},
		{"its Seq is the own number, with More", flagged(3, 20)},
		{"its Seq is one too little", flagged(1, 19)},
		{"its Seq is one too many", flagged(1, 22)},
		{"its Seq is a byte beyond", flagged(1, 21+256)},
		{"its Seq is that with which this side began, and one more", flagged(1, 8)},
	} {
		stays(t, "a follower: "+c.name, x, c.d, api.DBad)
	}
	goes(t, "a follower", x, flagged(1, 21), told{flagged(0, 21, h[3:]...), true, false, true, 21})
	x = leader(t, 20, l...)
	for _, c := range []struct {
		name string
		d    api.Dd
	}{
		{"it has Init", flagged(4, 21)},
		{"it has all three", flagged(7, 21)},
		{"it has Master", flagged(1, 21)},
		{"it has Master, and More", flagged(3, 21, some(3)...)},
		{"it is the last one, but has no More", flagged(0, 20)},
		{"its Seq is one too little", flagged(0, 19)},
		{"its Seq is one too many", flagged(0, 22)},
		{"its Seq is a byte beyond", flagged(0, 21+256)},
	} {
		stays(t, "a leader: "+c.name, x, c.d, api.DBad)
	}
	goes(t, "a leader", x, flagged(0, 21), told{flagged(1, 22, h[3:]...), true, true, false, 22})
}

// P14.1: behind its end nothing fits but the same piece, not even the next one.
func TestBehindTheEnd(t *testing.T) {
	for _, p := range ends(t) {
		x := p.make()
		for flags := range 8 {
			for step := -3; step <= 3; step++ {
				d := flagged(flags, (p.next+step)&top, some((flags+step+3)%4)...)
				if d.Init == p.last.Init && d.More == p.last.More && d.Master == p.last.Master && d.Seq == p.last.Seq {
					continue
				}
				stays(t, p.name, x, d, api.DBad)
			}
		}
		if !x.Done() {
			t.Errorf("%s: it isn't", p.name)
		}
	}
}

// P14.1: one that follows answers each next piece with its next one, and is done when neither that piece nor its answer has More.
func TestFollowerGoesOn(t *testing.T) {
	l := probe.Rising(7)
	h := probe.HeadsOf(l)
	x := New(1, 2, 7)
	goes(t, "agreed on", x, first(20), told{flagged(2, 20, h[:3]...), true, false, false, 20}, probe.Strewn(l, 3)...)
	goes(t, "no More, but more of its own", x, flagged(1, 21, some(2)...), told{flagged(2, 21, h[3:6]...), true, false, false, 21})
	goes(t, "More, and its last one", x, flagged(3, 22, some(3)...), told{flagged(0, 22, h[6:]...), true, false, false, 22})
	goes(t, "More, and nothing of its own", x, flagged(3, 23), told{flagged(0, 23), true, false, false, 23})
	goes(t, "More again", x, flagged(3, 24, some(1)...), told{flagged(0, 24), true, false, false, 24})
	goes(t, "no More", x, flagged(1, 25, some(3)...), told{flagged(0, 25), true, false, true, 25})
	x = follower(t, 20, l...)
	hears(t, "its second piece", x, flagged(3, 21), api.DTook)
	goes(t, "no More at its last one", x, flagged(1, 22), told{flagged(0, 22, h[6:]...), true, false, true, 22})
	x = follower(t, 20, l[:3]...)
	tells(t, "one piece", x, told{flagged(0, 20, h[:3]...), true, false, false, 20})
	goes(t, "one piece, no More", x, flagged(1, 21), told{flagged(0, 21), true, false, true, 21})
	x = follower(t, 20)
	goes(t, "nothing, More", x, flagged(3, 21), told{flagged(0, 21), true, false, false, 21})
	goes(t, "nothing, no More", x, flagged(1, 22), told{flagged(0, 22), true, false, true, 22})
}

// P14.1: one that leads says its next piece behind each that comes, till neither that nor what it said last has More: then it is done, and says nothing new.
func TestLeaderGoesOn(t *testing.T) {
	l := probe.Rising(7)
	h := probe.HeadsOf(l)
	x := New(2, 1, 20)
	goes(t, "agreed on", x, flagged(0, 20, some(1)...), told{flagged(3, 21, h[:3]...), true, true, false, 21}, probe.Strewn(l, 3)...)
	goes(t, "no More, but more of its own", x, flagged(0, 21), told{flagged(3, 22, h[3:6]...), true, true, false, 22})
	goes(t, "More, and its last one", x, flagged(2, 22, some(3)...), told{flagged(1, 23, h[6:]...), true, true, false, 23})
	goes(t, "More, and nothing of its own", x, flagged(2, 23), told{flagged(1, 24), true, true, false, 24})
	goes(t, "More again", x, flagged(2, 24, some(1)...), told{flagged(1, 25), true, true, false, 25})
	goes(t, "no More", x, flagged(0, 25, some(3)...), told{flagged(1, 25), true, true, true, 26})
	x = leader(t, 20, l...)
	hears(t, "its second piece", x, flagged(0, 21), api.DTook)
	goes(t, "no More, ahead of its last one", x, flagged(0, 22), told{flagged(1, 23, h[6:]...), true, true, false, 23})
	goes(t, "no More, at its last one", x, flagged(0, 23), told{flagged(1, 23, h[6:]...), true, true, true, 24})
	x = leader(t, 20, l[:3]...)
	tells(t, "one piece", x, told{flagged(1, 21, h[:3]...), true, true, false, 21})
	goes(t, "one piece, no More", x, flagged(0, 21), told{flagged(1, 21, h[:3]...), true, true, true, 22})
	x = New(2, 1, 20)
	goes(t, "nothing, neither has More", x, flagged(0, 20), told{flagged(1, 21), true, true, false, 21})
	goes(t, "nothing, More", x, flagged(2, 21), told{flagged(1, 22), true, true, false, 22})
	goes(t, "nothing, no More", x, flagged(0, 22), told{flagged(1, 22), true, true, true, 23})
}

// P14.1: the heads are told in the order of keys, three a piece, but of those of age 60; of none there is one piece, without heads.
func TestHeadsAreTold(t *testing.T) {
	for n := range 14 {
		l := probe.Rising(n)
		for i := range l {
			if i%4 == 2 {
				l[i].Head.Age = 60
			}
		}
		pieces := probe.Triples(probe.HeadsOf(slices.DeleteFunc(slices.Clone(l), func(x api.Lsa) bool { return x.Head.Age == 60 })))
		for seed := range 5 {
			l := probe.Strewn(l, seed)
			x, y := follower(t, 20, l...), leader(t, 20, l...)
			for i, piece := range pieces {
				more := 0
				if i+1 < len(pieces) {
					more = 2
				}
				tells(t, "follows", x, told{flagged(more, 20+i, piece...), true, false, false, 20 + i})
				tells(t, "leads", y, told{flagged(more+1, 21+i, piece...), true, true, false, 21 + i})
				hears(t, "follows", x, flagged(3, 21+i), api.DTook)
				hears(t, "leads", y, flagged(2, 21+i), api.DTook)
			}
			tells(t, "follows, at its end", x, told{flagged(0, 20+len(pieces)), true, false, false, 20 + len(pieces)})
			tells(t, "leads, at its end", y, told{flagged(1, 21+len(pieces)), true, true, false, 21 + len(pieces)})
		}
	}
}

// P14.1: the heads are those of the descriptions that are handed in when it is agreed on; of those handed in ahead and behind nothing is told.
func TestHeadsAreCutOnce(t *testing.T) {
	l, other := probe.Rising(5), probe.Rising(30)[20:]
	h := probe.HeadsOf(l)
	x := New(1, 2, 7)
	hears(t, "ahead", x, first(-1), api.DNone, other...)
	hears(t, "ahead", x, flagged(3, 20), api.DNone, other...)
	goes(t, "follows", x, first(20), told{flagged(2, 20, h[:3]...), true, false, false, 20}, l...)
	hears(t, "again", x, first(20), api.DAgain, other...)
	hears(t, "bad", x, first(21), api.DBad, other...)
	goes(t, "follows", x, flagged(3, 21), told{flagged(0, 21, h[3:]...), true, false, false, 21}, other...)
	goes(t, "follows", x, flagged(1, 22), told{flagged(0, 22), true, false, true, 22}, other...)
	x = New(2, 1, 7)
	hears(t, "ahead", x, flagged(0, 8), api.DNone, other...)
	hears(t, "ahead", x, first(7), api.DNone, other...)
	goes(t, "leads", x, flagged(0, 7), told{flagged(3, 8, h[:3]...), true, true, false, 8}, l...)
	hears(t, "again", x, flagged(0, 7), api.DNone, other...)
	hears(t, "bad", x, first(8), api.DBad, other...)
	goes(t, "leads", x, flagged(2, 8), told{flagged(1, 9, h[3:]...), true, true, false, 9}, other...)
	goes(t, "leads", x, flagged(2, 9), told{flagged(1, 10), true, true, false, 10}, other...)
	x = New(1, 2, 7)
	goes(t, "follows with nothing", x, first(20), told{flagged(0, 20), true, false, false, 20})
	goes(t, "follows with nothing", x, flagged(3, 21), told{flagged(0, 21), true, false, false, 21}, other...)
}

// side is an exchange told another way: its pieces are cut at once, and written out with their numbers as they come to be said.
type side struct {
	self, other int
	pieces      [][]api.Head
	last        *api.Dd
	now         told
}

// say makes what is said the next piece, or one without heads.
func (s *side) say() {
	master := 0
	if s.now.leads {
		master = 1
	}
	if len(s.pieces) > 1 {
		master += 2
	}
	s.now.said = flagged(master, s.now.seq)
	if len(s.pieces) > 0 {
		s.now.said.Heads = s.pieces[0]
		s.pieces = s.pieces[1:]
	}
}

// hear answers what comes of a piece.
func (s *side) hear(d api.Dd, l []api.Lsa) int {
	if d.Seq < 0 || d.Seq >= 1<<32 {
		return api.DNone
	}
	if !s.now.agreed {
		s.now.leads = s.self > s.other && !d.Init && !d.Master && d.Seq == s.now.seq
		follows := s.self < s.other && d.Init && d.More && d.Master && len(d.Heads) == 0
		if !s.now.leads && !follows {
			return api.DNone
		}
		s.now.agreed = true
		s.pieces = probe.Triples(probe.HeadsOf(l))
	} else {
		bare := d
		bare.Heads = s.last.Heads
		next := s.now.seq
		if !s.now.leads {
			next = (next + 1) % (1 << 32)
		}
		switch {
		case sameDd(*s.last, bare) && s.now.leads:
			return api.DNone
		case sameDd(*s.last, bare):
			return api.DAgain
		case s.now.done || d.Init || d.Master == s.now.leads || d.Seq != next:
			return api.DBad
		}
	}
	begun := s.last != nil
	s.last, s.now.seq = &d, d.Seq
	if s.now.leads {
		s.now.seq = (d.Seq + 1) % (1 << 32)
	}
	if begun && s.now.leads && !d.More && !s.now.said.More {
		s.now.done = true
		return api.DTook
	}
	s.say()
	s.now.done = begun && !s.now.leads && !d.More && !s.now.said.More
	return api.DTook
}

// likely answers a piece that may be next, or nearly so.
func likely(s *side, a, b byte) api.Dd {
	d := flagged(int(a)%8, (s.now.seq+int(a)/8%4-1)&top, some(int(b)%3)...)
	if a >= 100 && !s.now.agreed && s.self < s.other {
		d = first(top - int(b)%3)
	} else if a >= 100 && s.now.leads || a >= 100 && !s.now.agreed {
		d.Init, d.Master, d.Seq = false, false, s.now.seq
	} else if a >= 100 {
		d.Init, d.Master, d.Seq = false, true, (s.now.seq+1)&top
	}
	if b < 20 && s.last != nil {
		d.Init, d.More, d.Master, d.Seq = s.last.Init, s.last.More, s.last.Master, s.last.Seq
	}
	if b > 250 {
		d.Seq = strange()[int(a)%len(strange())]
	}
	return d
}

// P14.1, R5: pieces without a plain rule lead to what is told another way.
func TestMixed(t *testing.T) {
	for seed := range 3000 {
		n := [][2]int{{1, 2}, {2, 1}, {2, 1}, {3, 12}, {12, 3}, {4, 4}}[seed%6]
		seq := []int{0, 5, top, top - 1}[seed/6%4]
		x := New(n[0], n[1], seq)
		s := &side{self: n[0], other: n[1], now: told{said: first(seq), seq: seq}}
		m := probe.Mixed(60, seed)
		for i := 0; i < len(m); i += 2 {
			d, l := likely(s, m[i], m[i+1]), probe.Rising((seed+i)%17)
			hears(t, "mixed", x, d, s.hear(d, l), l...)
			tells(t, "mixed", x, s.now)
			if t.Failed() {
				t.Fatalf("seed %d, piece %d: %+v", seed, i/2, d)
			}
		}
	}
}

// both is two exchanges with each other: the descriptions that each has, the heads of these that are told, and what each took of the other one's.
type both struct {
	x      [2]*Exch
	has    [2][]api.Lsa
	heads  [2][]api.Head
	took   [2][]api.Head
	pieces [2]int
}

// pair answers two exchanges of these numbers, with so many heads to tell each, and among those a description of age 60.
func pair(ids, seqs, heads [2]int) *both {
	b := &both{}
	for i, n := range heads {
		b.x[i] = New(ids[i], ids[1-i], seqs[i])
		if n > 0 {
			l := probe.Rising(n + 1)
			l[n/2].Head.Age = 60
			b.has[i] = probe.Strewn(l, n+i)
			b.heads[i] = probe.HeadsOf(slices.Delete(l, n/2, n/2+1))
		}
	}
	return b
}

// hear lets one hear what the other one said last, and holds what P14.2 promises at any time.
func (b *both) hear(t *testing.T, i int) {
	t.Helper()
	d, _ := b.x[1-i].Say()
	was := asked(t, "a side", b.x[i])
	came := b.x[i].Hear(d, b.has[i]...)
	switch came {
	case api.DTook:
		b.took[i] = append(b.took[i], d.Heads...)
		b.pieces[i]++
	case api.DNone, api.DAgain:
		tells(t, "nothing new", b.x[i], was)
	default:
		t.Errorf("Hear(%+v) = %d", d, came)
	}
	all := b.heads[1-i]
	if len(b.took[i]) > len(all) || !slices.Equal(b.took[i], all[:len(b.took[i])]) {
		t.Errorf("took %v of %v", b.took[i], all)
	}
	if was.done && !b.x[i].Done() || was.agreed && !b.x[i].Agreed() {
		t.Errorf("no longer agreed on, or done")
	}
	if b.done() {
		b.ended(t)
	}
}

// done tells whether both are.
func (b *both) done() bool { return b.x[0].Done() && b.x[1].Done() }

// ended holds that each has all heads of the other one, and that just one leads.
func (b *both) ended(t *testing.T) {
	t.Helper()
	for i := range 2 {
		if !slices.Equal(b.took[i], b.heads[1-i]) {
			t.Errorf("done, but took %v of %v", b.took[i], b.heads[1-i])
		}
	}
	if b.x[0].Leads() == b.x[1].Leads() || b.x[0].Seq() == b.x[1].Seq() {
		t.Errorf("both lead, or neither, or both are of number %d", b.x[0].Seq())
	}
}

// finish lets both hear each other by turns till they are done.
func (b *both) finish(t *testing.T) {
	t.Helper()
	for range 100 {
		if b.done() {
			return
		}
		b.hear(t, 0)
		b.hear(t, 1)
	}
	t.Errorf("not done with %d and %d heads", len(b.heads[0]), len(b.heads[1]))
}

// few answers numbers of descriptions of two, of each kind of last piece.
func few() [][2]int {
	var l [][2]int
	for _, a := range []int{0, 1, 2, 3, 4, 6, 7} {
		for _, b := range []int{0, 1, 2, 3, 4, 6, 7} {
			l = append(l, [2]int{a, b})
		}
	}
	return l
}

// starts answers with which numbers two may begin.
func starts() [][2]int {
	return [][2]int{{7, 20}, {20, 7}, {7, 7}, {0, 0}, {top, top}, {top, 0}, {0, top}, {8, 7}, {7, 8}, {-1, -2}, {top - 1, 1 << 32}}
}

// P14.2: whichever of two hears the other one, in every order of so many steps, and by turns behind it.
func TestAnyOrder(t *testing.T) {
	const steps = 10
	for _, has := range few() {
		for order := range 1 << steps {
			b := pair([2]int{1, 2}, starts()[order%len(starts())], has)
			for i := range steps {
				b.hear(t, order>>i&1)
			}
			b.finish(t)
			if t.Failed() {
				t.Fatalf("%v descriptions, order %b", has, order)
			}
		}
	}
}

// P14.2: of many descriptions, in orders without a plain rule, whichever of them leads.
func TestAnyOrderOfMany(t *testing.T) {
	for seed := range 600 {
		ids := pairs()[seed%len(pairs())]
		if seed%2 == 1 {
			slices.Reverse(ids[:])
		}
		m := probe.Mixed(seed%200, seed)
		b := pair(ids, starts()[seed%len(starts())], [2]int{seed % 41, seed / 7 % 41})
		for _, x := range m {
			b.hear(t, int(x)%2)
		}
		b.finish(t)
		for _, x := range m {
			b.hear(t, int(x)%2)
		}
		if t.Failed() {
			t.Fatalf("seed %d", seed)
		}
	}
}

// P14.2: one of them again and again, any number of times, by turns with the other one.
func TestAgainAndAgain(t *testing.T) {
	for _, has := range append(few(), [2]int{40, 0}, [2]int{0, 40}, [2]int{40, 13}) {
		for one := 1; one <= 4; one++ {
			for other := 1; other <= 4; other++ {
				for begins := range 2 {
					b := pair([2]int{9, 4}, [2]int{3, 3}, has)
					for range 20 {
						for range one {
							b.hear(t, begins)
						}
						for range other {
							b.hear(t, 1-begins)
						}
					}
					if !b.done() {
						t.Fatalf("%v descriptions: not done", has)
					}
				}
			}
		}
	}
}

// P14.1, P14.2: by turns each takes, behind the piece by which it is agreed on, as many as the one that leads has to tell, or as the other one has but for the first one.
func TestByTurns(t *testing.T) {
	for p := range 26 {
		for q := range 26 {
			for _, seqs := range starts() {
				b := pair([2]int{3, 8}, seqs, [2]int{q, p})
				b.finish(t)
				lead, follow := len(probe.Triples(b.heads[1])), len(probe.Triples(b.heads[0]))
				rounds := max(lead, follow-1)
				if b.pieces != [2]int{1 + rounds, 1 + rounds} {
					t.Errorf("%d and %d pieces: %v were taken", lead, follow, b.pieces)
				}
				begun := seqs[1] & top
				if got := [2]int{b.x[0].Seq(), b.x[1].Seq()}; got != [2]int{(begun + rounds) & top, (begun + rounds + 1) & top} {
					t.Errorf("%d and %d pieces, from %d on: the numbers are %v", lead, follow, begun, got)
				}
			}
		}
	}
}

// P14.1: two of the same number hear each other, and nothing comes of it.
func TestTwoOfTheSameNumber(t *testing.T) {
	for _, seqs := range starts() {
		b := pair([2]int{5, 5}, seqs, [2]int{4, 7})
		for i := range 20 {
			b.hear(t, i/3%2)
		}
		for i := range 2 {
			tells(t, "of the same number", b.x[i], told{said: first(seqs[i] & top), seq: seqs[i] & top})
		}
	}
}

// P14.1, R1: of a nil exchange nothing is answered, whatever it hears.
func TestNilExch(t *testing.T) {
	var x *Exch
	tells(t, "nil", x, told{})
	for flags := range 8 {
		for _, seq := range append(strange(), 0, 7, top) {
			stays(t, "nil", x, flagged(flags, seq, some(flags%3)...), api.DNone)
		}
	}
}

// R4: descriptions that are handed in stay as they were, spare room included, and aren't kept.
func TestDescriptionsStay(t *testing.T) {
	mark := probe.Rising(60)[59]
	for n := range 14 {
		want := probe.Triples(probe.HeadsOf(probe.Rising(n)))
		for _, make := range []func(...api.Lsa) *Exch{
			func(l ...api.Lsa) *Exch { return follower(t, 20, l...) },
			func(l ...api.Lsa) *Exch { return leader(t, 20, l...) },
		} {
			list, whole, held := probe.RoomyLsas(probe.Strewn(probe.Rising(n), n), 5, mark)
			x := make(list...)
			if !held() {
				t.Errorf("of %d descriptions: what was handed in changed", n)
			}
			probe.Scribble(whole, mark)
			for _, piece := range want {
				d, _ := x.Say()
				if !slices.Equal(d.Heads, piece) {
					t.Errorf("scribbled: Say() = %+v, want %v", d, piece)
				}
				d = api.Dd{More: true, Master: !x.Leads(), Seq: x.Seq()}
				if !x.Leads() {
					d.Seq++
				}
				later, whole, held := probe.RoomyLsas(probe.Rising(n+1), 5, mark)
				hears(t, "with others", x, d, api.DTook, later...)
				if !held() {
					t.Errorf("of %d descriptions: what was handed in later changed", n)
				}
				probe.Scribble(whole, api.Lsa{})
			}
		}
	}
}

// R4: a piece's heads stay as they were, spare room included, whatever comes of it, and aren't kept.
func TestPiecesStay(t *testing.T) {
	mark := api.Head{Age: -1, Seq: -1}
	l := probe.Rising(7)
	for flags := range 8 {
		for _, seq := range []int{-1, 6, 7, 8, 19, 20, 21, 22, 1 << 32} {
			for _, x := range []*Exch{New(1, 2, 7), New(2, 1, 7), New(3, 3, 7), follower(t, 20, l...), leader(t, 20, l...), nil} {
				heads, whole := probe.Roomy(some(2), 4, mark)
				was := slices.Clone(whole)
				x.Hear(flagged(flags, seq, heads...), l...)
				then := asked(t, "heard", x)
				if !slices.Equal(whole, was) {
					t.Errorf("Hear changed a piece's heads: %v, were %v", whole, was)
				}
				probe.Scribble(whole, mark)
				tells(t, "scribbled", x, then)
			}
		}
	}
	x := leader(t, 20, l...)
	heads, whole := probe.Roomy(some(2), 4, mark)
	hears(t, "kept", x, flagged(2, 21, heads...), api.DTook)
	probe.Scribble(whole, api.Head{})
	stays(t, "the same, scribbled", x, flagged(2, 21, heads...), api.DNone)
}

// R4: what was said may be written all over, spare room included, and stays as it is behind Hear.
func TestSaidIsNew(t *testing.T) {
	mark := api.Head{Age: -1, Seq: -1}
	for n := range 14 {
		for _, x := range []*Exch{follower(t, 20, probe.Rising(n)...), leader(t, 20, probe.Rising(n)...), New(1, 2, 20)} {
			for range 6 {
				is := asked(t, "said", x)
				want := slices.Clone(is.said.Heads)
				kept, _ := x.Say()
				d, _ := x.Say()
				probe.Scribble(d.Heads, mark)
				probe.Scribble(is.said.Heads, mark)
				if !slices.Equal(kept.Heads, want) {
					t.Errorf("two answers share memory: %v, want %v", kept.Heads, want)
				}
				is.said.Heads = want
				tells(t, "scribbled", x, is)
				next := x.Seq()
				if !x.Leads() {
					next++
				}
				x.Hear(api.Dd{More: true, Master: !x.Leads(), Seq: next})
				if !slices.Equal(kept.Heads, want) {
					t.Errorf("Hear changed what was said: %v, want %v", kept.Heads, want)
				}
			}
		}
	}
}

// R5: the same calls on another exchange are answered the same; two share nothing, though they were made, and agreed on, of one list.
func TestExchangesApart(t *testing.T) {
	l := probe.Rising(10)
	h := probe.HeadsOf(l)
	a, b, c := New(1, 2, 7), New(1, 2, 7), New(2, 1, 7)
	other := follower(t, 5, probe.Rising(20)...)
	at := 5
	between := func() {
		at++
		hears(t, "another one", other, flagged(3, at), api.DTook)
	}
	goes(t, "the first one", a, first(20), told{flagged(2, 20, h[:3]...), true, false, false, 20}, l...)
	tells(t, "the second one", b, told{said: first(7), seq: 7})
	between()
	goes(t, "the third one", c, flagged(2, 7), told{flagged(3, 8, h[:3]...), true, true, false, 8}, l...)
	goes(t, "the first one", a, flagged(3, 21), told{flagged(2, 21, h[3:6]...), true, false, false, 21})
	goes(t, "the second one", b, first(20), told{flagged(2, 20, h[:3]...), true, false, false, 20}, l...)
	tells(t, "the third one", c, told{flagged(3, 8, h[:3]...), true, true, false, 8})
	between()
	goes(t, "the second one", b, flagged(3, 21), told{flagged(2, 21, h[3:6]...), true, false, false, 21})
	goes(t, "the first one", a, flagged(3, 22), told{flagged(2, 22, h[6:9]...), true, false, false, 22})
	goes(t, "the first one", a, flagged(1, 23), told{flagged(0, 23, h[9:]...), true, false, true, 23})
	between()
	tells(t, "the second one", b, told{flagged(2, 21, h[3:6]...), true, false, false, 21})
	goes(t, "the second one", b, flagged(3, 22), told{flagged(2, 22, h[6:9]...), true, false, false, 22})
	goes(t, "the third one", c, flagged(0, 8), told{flagged(3, 9, h[3:6]...), true, true, false, 9})
	goes(t, "the second one", b, flagged(1, 23), told{flagged(0, 23, h[9:]...), true, false, true, 23})
}
