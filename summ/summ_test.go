package summ

import (
	"math"
	"slices"
	"testing"

	"syndic/api"
	"syndic/lsa"
	"syndic/lsdb"
	"syndic/order"
	"syndic/probe"
)

// ofRouter answers a router's description, which is right.
func ofRouter(id, seq, age int) api.Lsa {
	return api.Lsa{Head: api.Head{Age: age, Kind: api.Router, Id: id, Adv: id, Seq: seq}}
}

// ofNetwork answers a network's description, which is right.
func ofNetwork(id, adv, seq, age int) api.Lsa {
	return api.Lsa{Head: api.Head{Age: age, Kind: api.Network, Id: id, Adv: adv, Seq: seq}, Members: []int{1, 4}}
}

// keysOf answers descriptions' keys.
func keysOf(l []api.Lsa) []api.Key { return probe.KeysOf(probe.HeadsOf(l)) }

// isAt holds that a summary is at this piece, and stays at it while it is asked.
func isAt(t *testing.T, name string, s *Summ, want []api.Head, more bool) {
	t.Helper()
	for range 3 {
		if got := s.Piece(); !slices.Equal(got, want) {
			t.Errorf("%s: Piece() = %v, want %v", name, got, want)
		}
		if got := s.More(); got != more {
			t.Errorf("%s: More() = %v at %v", name, got, want)
		}
	}
}

// steps holds that Step answers so.
func steps(t *testing.T, name string, s *Summ, want bool) {
	t.Helper()
	if got := s.Step(); got != want {
		t.Errorf("%s: Step() = %v", name, got)
	}
}

// tells holds that a summary, from its first piece to its end and beyond, tells just these heads.
func tells(t *testing.T, name string, s *Summ, want []api.Head) {
	t.Helper()
	if s == nil {
		t.Fatalf("%s: New answers nil", name)
	}
	pieces := probe.Triples(want)
	for i, piece := range pieces {
		more := i+1 < len(pieces)
		isAt(t, name, s, piece, more)
		steps(t, name, s, more)
	}
	isAt(t, name+", at its end", s, nil, false)
	for range 4 {
		steps(t, name+", at its end", s, false)
		isAt(t, name+", behind its end", s, nil, false)
	}
}

// databaseOf answers a database that has these.
func databaseOf(t *testing.T, l ...api.Lsa) *lsdb.Db {
	t.Helper()
	d := lsdb.New(api.MaxLsas)
	for _, x := range l {
		if err := d.Put(x); err != api.OK {
			t.Fatalf("Put(%v): %d", x, int(err))
		}
	}
	return d
}

// sameAll tells whether two lists have the same descriptions.
func sameAll(a, b []api.Lsa) bool { return slices.EqualFunc(a, b, lsa.Same) }

// lackHeads holds what a database lacks of heads, twice, and that it is as it was.
func lackHeads(t *testing.T, name string, d *lsdb.Db, heads []api.Head, want ...api.Head) {
	t.Helper()
	was := d.All()
	for range 2 {
		if got := Lacks(d, heads...); !slices.Equal(got, want) {
			t.Errorf("%s: Lacks(d, %v) = %v, want %v", name, heads, got, want)
		}
	}
	if !sameAll(d.All(), was) {
		t.Errorf("%s: Lacks made the database %v, was %v", name, d.All(), was)
	}
}

// areGone holds the keys of those that are of the greatest age.
func areGone(t *testing.T, name string, l []api.Lsa, want ...api.Key) {
	t.Helper()
	if got := Gone(l...); !slices.Equal(got, want) {
		t.Errorf("%s: Gone(%v) = %v, want %v", name, l, got, want)
	}
}

// P13.1: the chapter's example: four descriptions, told in a piece of three and one of one.
func TestChapterExample(t *testing.T) {
	s := New(ofRouter(4, 1, 0), ofRouter(2, 1, 7), ofRouter(1, 1, 59), ofRouter(3, 1, 1))
	one, two, three, four := ofRouter(1, 1, 59).Head, ofRouter(2, 1, 7).Head, ofRouter(3, 1, 1).Head, ofRouter(4, 1, 0).Head
	isAt(t, "the first piece", s, []api.Head{one, two, three}, true)
	steps(t, "to the second one", s, true)
	isAt(t, "the second piece", s, []api.Head{four}, false)
	steps(t, "to the end", s, false)
	isAt(t, "the end", s, nil, false)
}

// P13.1: any number of descriptions, in whatever order, is told by threes in the order of keys, the last piece of what is left.
func TestPieces(t *testing.T) {
	for n := range 8 {
		probe.Turns(probe.Rising(n), func(l []api.Lsa) { tells(t, "few", New(l...), probe.HeadsOf(probe.Rising(n))) })
	}
	for _, n := range []int{8, 9, 10, 11, 12, 13, 39, 40, 41, 120, 1000} {
		want := probe.HeadsOf(probe.Rising(n))
		tells(t, "in order", New(probe.Rising(n)...), want)
		for seed := range 10 {
			tells(t, "strewn", New(probe.Strewn(probe.Rising(n), seed)...), want)
		}
	}
}

// P13.1: keys are in the order of Kind, then Id, then Adv, as numbers; nothing else of a head bears on it.
func TestOrderOfKeys(t *testing.T) {
	want := probe.Far()
	var l []api.Lsa
	for _, h := range want {
		l = append(l, api.Lsa{Head: h})
	}
	for seed := range 60 {
		tells(t, "keys", New(probe.Strewn(l, seed)...), want)
	}
}

// P13.1: of one key all are told, in the order in which they came, whichever is newer, and those that are alike too.
func TestOfOneKey(t *testing.T) {
	a, b, c, other := ofRouter(5, 7, 3), ofRouter(5, 9, 50), ofRouter(5, 8, 0), ofRouter(4, 1, 1)
	probe.Turns([]api.Lsa{a, b, c, a}, func(l []api.Lsa) {
		want := probe.HeadsOf(l)
		tells(t, "of one key alone", New(l...), want)
		for at := range len(l) + 1 {
			tells(t, "and another one", New(slices.Insert(slices.Clone(l), at, other)...), append([]api.Head{other.Head}, want...))
		}
	})
	for seed := range 20 {
		var l []api.Lsa
		for i, at := range probe.Mixed(300, seed) {
			l = append(l, api.Lsa{Head: api.Head{Kind: 1 + int(at)%2, Id: 7, Adv: int(at) / 2 % 3, Seq: int(at) * 37 % 11, Sum: i}})
		}
		var want []api.Head
		for k := range 6 {
			for _, x := range l {
				if x.Head.Kind == 1+k/3 && x.Head.Adv == k%3 {
					want = append(want, x.Head)
				}
			}
		}
		tells(t, "many of few keys", New(l...), want)
	}
}

// P13.1: what is of age 60 isn't told, of whatever age else it is.
func TestAges(t *testing.T) {
	for _, age := range []int{math.MinInt64, -60, -1, 0, 1, 30, 58, 59, 61, 62, 120, 60 + 256, 60 + 1<<32, 3600, math.MaxInt64} {
		l := []api.Lsa{ofRouter(1, 2, age)}
		tells(t, "alone", New(l...), probe.HeadsOf(l))
		l = append(l, ofRouter(3, 2, age))
		tells(t, "around one of age 60", New(l[1], ofRouter(2, 2, 60), l[0]), probe.HeadsOf(l))
		tells(t, "behind one of its own key of age 60", New(ofRouter(3, 9, 60), l[0], l[1], ofRouter(1, 1, 60)), probe.HeadsOf(l))
	}
}

// P13.1: some are of age 60: it counts which are told, not which are handed in; of none but such there is one piece, without heads.
func TestSomeOfAge60(t *testing.T) {
	for n := range 9 {
		for which := range 1 << n {
			l := probe.Rising(n)
			var want []api.Head
			for i := range l {
				if which>>i&1 == 1 {
					l[i].Head.Age = 60
				} else {
					want = append(want, l[i].Head)
				}
			}
			tells(t, "some of age 60", New(l...), want)
			slices.Reverse(l)
			tells(t, "some of age 60, the other way about", New(l...), want)
		}
	}
}

// P13.1: a head is told as it stands, each field of it, though the description isn't right, or isn't sealed.
func TestAsItStands(t *testing.T) {
	sealed := lsa.Seal(ofNetwork(17, 1, 5, 9))
	for _, h := range []api.Head{
		{},
		sealed.Head,
		{Age: 9, Kind: 2, Id: 17, Adv: 1, Seq: 5},
		{Age: 9, Kind: 2, Id: 17, Adv: 1, Seq: 5, Sum: 1, Long: 2},
		{Age: 1, Kind: 2, Id: 3, Adv: 4, Seq: 5, Sum: 6, Long: 7},
		{Age: -1, Kind: -2, Id: -3, Adv: -4, Seq: -5, Sum: -6, Long: -7},
		{Age: math.MaxInt64, Kind: math.MinInt64, Id: math.MaxInt64, Adv: math.MinInt64, Seq: math.MaxInt64, Sum: math.MinInt64, Long: math.MaxInt64},
	} {
		tells(t, "a head", New(api.Lsa{Head: h}), []api.Head{h})
		tells(t, "a network's", New(api.Lsa{Head: h, Members: []int{1, 2, 3}}), []api.Head{h})
		tells(t, "with both", New(api.Lsa{Head: h, Links: []api.Link{{Kind: 9}}, Members: []int{-1}}), []api.Head{h})
	}
}

// P13.1, R1: of a nil summary nothing is answered, however often it is asked.
func TestNilSumm(t *testing.T) {
	var s *Summ
	for range 4 {
		isAt(t, "nil", s, nil, false)
		steps(t, "nil", s, false)
	}
}

// P13.1: Step goes on though nothing else was asked, as many pieces as there are.
func TestStepsAlone(t *testing.T) {
	for n := range 50 {
		s := New(probe.Strewn(probe.Rising(n), n)...)
		for range max(0, (n-1)/3) {
			steps(t, "alone", s, true)
		}
		isAt(t, "the last one", s, probe.Triples(probe.HeadsOf(probe.Rising(n)))[max(0, (n-1)/3)], false)
		for range 5 {
			steps(t, "alone, at the end", s, false)
		}
		isAt(t, "the end", s, nil, false)
	}
}

// P13.2: of the database's own key what is newer is lacked, what is older, or the same, isn't.
func TestLacksOne(t *testing.T) {
	has := lsa.Seal(ofRouter(4, 5, 20))
	for _, x := range []struct {
		name        string
		age, change int // of the head that is held against what is there, and whether its Seq is more or less than 5
		sum         int // how much more its Sum is
		lacked      bool
	}{
		{"it itself", 20, 0, 0, false},
		{"a greater Seq", 20, 1, 0, true},
		{"a greater Seq, of a lesser Sum, older", 59, 1, -9, true},
		{"a lesser Seq", 20, -1, 0, false},
		{"a lesser Seq, of a greater Sum, younger", 0, -1, 9, false},
		{"a lesser Seq, of age 60", 60, -1, 9, false},
		{"a greater Sum", 20, 0, 1, true},
		{"a lesser Sum", 20, 0, -1, false},
		{"a greater Sum, older", 59, 0, 1, true},
		{"a lesser Sum, younger", 0, 0, -1, false},
		{"a lesser Sum, of age 60", 60, 0, -1, false},
		{"of age 60", 60, 0, 0, true},
		{"7 younger", 13, 0, 0, true},
		{"6 younger", 14, 0, 0, false},
		{"1 younger", 19, 0, 0, false},
		{"1 older", 21, 0, 0, false},
		{"6 older", 26, 0, 0, false},
		{"7 older", 27, 0, 0, false},
		{"the youngest", 0, 0, 0, true},
		{"the oldest but 60", 59, 0, 0, false},
	} {
		h := has.Head
		h.Age, h.Seq, h.Sum = x.age, h.Seq+x.change, h.Sum+x.sum
		var want []api.Head
		if x.lacked {
			want = []api.Head{h}
		}
		lackHeads(t, x.name, databaseOf(t, has), []api.Head{h}, want...)
		lackHeads(t, x.name+", among others", databaseOf(t, ofRouter(3, 9, 0), has, ofNetwork(4, 4, 9, 0)), []api.Head{h}, want...)
		lackHeads(t, x.name+", of a database without it", databaseOf(t, ofRouter(3, 9, 0), ofNetwork(4, 4, 9, 0)), []api.Head{h}, h)
		lackHeads(t, x.name+", of an empty one", lsdb.New(1), []api.Head{h}, h)
		lackHeads(t, x.name+", of a nil one", nil, []api.Head{h}, h)
	}
}

// P13.2: the Long, and what isn't of the head, doesn't bear on it; a database's own of age 60 is newer than others of that Seq and Sum.
func TestLacksOfAge60(t *testing.T) {
	has := lsa.Seal(ofRouter(4, 5, 60))
	for _, age := range []int{0, 1, 53, 54, 59, 60} {
		h := has.Head
		h.Age, h.Long = age, 7
		lackHeads(t, "of one of age 60", databaseOf(t, has), []api.Head{h})
		h.Seq++
		lackHeads(t, "newer than one of age 60", databaseOf(t, has), []api.Head{h}, h)
	}
}

// P13.2: of no heads nothing is lacked.
func TestLacksNothing(t *testing.T) {
	for _, d := range []*lsdb.Db{nil, lsdb.New(1), databaseOf(t, ofRouter(1, 1, 0), ofRouter(2, 1, 60))} {
		lackHeads(t, "of no heads", d, nil)
		lackHeads(t, "of no heads", d, []api.Head{})
	}
}

// P13.2: each number of a key tells it apart from others.
func TestLacksByKey(t *testing.T) {
	has := lsa.Seal(ofNetwork(2, 3, 5, 0))
	d := databaseOf(t, has)
	lackHeads(t, "the same key", d, []api.Head{has.Head})
	var many []api.Head
	for _, k := range []api.Key{
		{Kind: 1, Id: 2, Adv: 3}, {Kind: 3, Id: 2, Adv: 3}, {Kind: 2, Id: 1, Adv: 3}, {Kind: 2, Id: 3, Adv: 3}, {Kind: 2, Id: 2, Adv: 2}, {Kind: 2, Id: 2, Adv: 4},
		{Kind: 2, Id: 3, Adv: 2}, {Kind: 3, Id: 2, Adv: 2}, {}, {Kind: -2, Id: -2, Adv: -3}, {Kind: 2 + 1<<32, Id: 2, Adv: 3}, {Kind: 2, Id: 2 + 256, Adv: 3},
		{Kind: math.MinInt64, Id: math.MaxInt64, Adv: math.MinInt64}, {Kind: math.MaxInt64, Id: math.MinInt64, Adv: math.MaxInt64},
	} {
		h := api.Head{Kind: k.Kind, Id: k.Id, Adv: k.Adv, Seq: 1}
		lackHeads(t, "another key", d, []api.Head{h}, h)
		many = append(many, h)
	}
	lackHeads(t, "other keys", d, many, many...)
	lackHeads(t, "and its own", d, slices.Insert(slices.Clone(many), 5, has.Head), many...)
	lackHeads(t, "of a nil one", nil, slices.Insert(slices.Clone(many), 5, has.Head), slices.Insert(slices.Clone(many), 5, has.Head)...)
}

// P13.2: of many keys, the database has some, older, the same or newer: what it lacks stands in the order in which it came, not in that of keys.
func TestLacksInOrder(t *testing.T) {
	var l []api.Lsa
	for id := 1; id <= 7; id++ {
		l = append(l, lsa.Seal(ofRouter(id, 10, 0)))
	}
	d := databaseOf(t, l[0], ofRouter(2, 9, 0), ofRouter(3, 11, 0), l[4], ofRouter(6, 8, 60))
	lacked := func(h api.Head) bool { return h.Id == 2 || h.Id == 4 || h.Id == 6 || h.Id == 7 }
	heads := probe.HeadsOf(l)
	probe.Turns(heads, func(heads []api.Head) {
		var want []api.Head
		for _, h := range heads {
			if lacked(h) {
				want = append(want, h)
			}
		}
		lackHeads(t, "some", d, heads, want...)
		lackHeads(t, "none", databaseOf(t, l...), heads)
		lackHeads(t, "all, of an empty one", lsdb.New(40), heads, heads...)
		lackHeads(t, "all, of a nil one", nil, heads, heads...)
	})
}

// P13.2: of several heads of one key there is the newest one, at the place of the first one, whatever stands between them.
func TestLacksSeveralOfOneKey(t *testing.T) {
	of := func(seq int) api.Head { return ofRouter(3, seq, 0).Head }
	marked := func(seq, long int) api.Head {
		h := of(seq)
		h.Long = long
		return h
	}
	x, y := ofRouter(9, 1, 0).Head, ofNetwork(1, 1, 1, 0).Head
	for _, c := range []struct {
		name  string
		heads []api.Head
		want  []api.Head
	}{
		{"a newer one behind it", []api.Head{of(5), of(6)}, []api.Head{of(6)}},
		{"an older one behind it", []api.Head{of(5), of(4)}, []api.Head{of(5)}},
		{"the same one behind it: the first one stays", []api.Head{marked(5, 1), marked(5, 2)}, []api.Head{marked(5, 1)}},
		{"a newer one behind both", []api.Head{of(5), of(4), of(6)}, []api.Head{of(6)}},
		{"a newer one, and a newer one yet", []api.Head{of(5), of(6), of(7)}, []api.Head{of(7)}},
		{"newer than the first one, not than the second one", []api.Head{of(5), of(8), of(7)}, []api.Head{of(8)}},
		{"the same as a newer one: that one stays", []api.Head{of(5), marked(8, 1), marked(8, 2), of(4)}, []api.Head{marked(8, 1)}},
		{"each other by turns", []api.Head{of(5), x, of(6), y, of(4), x, y, of(7)}, []api.Head{of(7), x, y}},
		{"others ahead", []api.Head{y, x, of(5), y, of(6), x}, []api.Head{y, x, of(6)}},
	} {
		lackHeads(t, c.name, lsdb.New(40), c.heads, c.want...)
		lackHeads(t, c.name+", of a nil one", nil, c.heads, c.want...)
		lackHeads(t, c.name+", of one that has older ones", databaseOf(t, ofRouter(3, 3, 0), ofRouter(9, 0, 0)), c.heads, c.want...)
	}
}

// P13.2: of several of one key only those bear on it that the database lacks: the first one of these tells the place.
func TestLacksBetween(t *testing.T) {
	of := func(seq int) api.Head { return ofRouter(3, seq, 0).Head }
	x, y := ofRouter(9, 1, 0).Head, ofNetwork(1, 1, 1, 0).Head
	d := databaseOf(t, ofRouter(3, 6, 0))
	for _, c := range []struct {
		name  string
		heads []api.Head
		want  []api.Head
	}{
		{"an older one, then a newer one", []api.Head{of(5), of(7)}, []api.Head{of(7)}},
		{"a newer one, then an older one", []api.Head{of(7), of(5)}, []api.Head{of(7)}},
		{"an older one has no place", []api.Head{of(5), x, of(7), y}, []api.Head{x, of(7), y}},
		{"older ones, by turns with newer ones", []api.Head{of(5), x, of(8), of(4), y, of(7), of(9), of(6)}, []api.Head{x, of(9), y}},
		{"older ones alone", []api.Head{of(4), of(5), of(3)}, nil},
		{"older ones, and others", []api.Head{of(4), y, of(5), x, of(3)}, []api.Head{y, x}},
	} {
		lackHeads(t, c.name, d, c.heads, c.want...)
	}
}

// P13.2: of one Seq and Sum a head may be newer than one that is the same as the one ahead of it: they are held against what stands there alone.
func TestLacksByAge(t *testing.T) {
	has := lsa.Seal(ofRouter(3, 6, 20))
	of := func(age int) api.Head {
		h := has.Head
		h.Age = age
		return h
	}
	d := databaseOf(t, has)
	lackHeads(t, "not 6 younger, but 7", d, []api.Head{of(14), of(13)}, of(13))
	lackHeads(t, "the same as what stands there", d, []api.Head{of(13), of(7)}, of(13))
	lackHeads(t, "younger by far than what stands there", d, []api.Head{of(13), of(6)}, of(6))
	lackHeads(t, "not than the one ahead of it, but than the first one", d, []api.Head{of(13), of(7), of(6)}, of(6))
	lackHeads(t, "what isn't lacked doesn't stand there", d, []api.Head{of(14), of(9)}, of(9))
	lackHeads(t, "of age 60 behind all", d, []api.Head{of(13), of(0), of(60)}, of(60))
	lackHeads(t, "of age 60 ahead of all", d, []api.Head{of(60), of(0), of(13)}, of(60))
}

// lacked answers what Lacks does, told another way: by going through all heads anew for each.
func lacked(d *lsdb.Db, heads []api.Head) []api.Head {
	var rest []api.Head
	for _, h := range heads {
		if l, is := d.Get(api.KeyOf(h)); !is || order.Newer(h, l.Head) == 1 {
			rest = append(rest, h)
		}
	}
	var out []api.Head
	for i, h := range rest {
		of := func(g api.Head) bool { return api.KeyOf(g) == api.KeyOf(h) }
		if slices.IndexFunc(rest, of) < i {
			continue
		}
		var all []api.Head
		for _, g := range rest {
			if of(g) {
				all = append(all, g)
			}
		}
		out = append(out, all[order.Best(all...)])
	}
	return out
}

// anyOf answers a description that is right, of one of a few keys and of a number and an age near others'.
func anyOf(a, b, c byte) api.Lsa {
	age := []int{0, 5, 6, 7, 12, 13, 14, 59, 60}[c%9]
	if a%2 == 0 {
		return lsa.Seal(ofRouter(1+int(a)/2%5, int(b)%3, age))
	}
	return lsa.Seal(ofNetwork(int(a)/2%3, 1+int(a)/6%3, int(b)%3, age))
}

// someOf answers n of these.
func someOf(n, seed int) []api.Lsa {
	var l []api.Lsa
	m := probe.Mixed(3*n, seed)
	for i := range n {
		l = append(l, anyOf(m[3*i], m[3*i+1], m[3*i+2]))
	}
	return l
}

// P13.2, R5: of heads without a plain rule, what a database lacks is what is told another way.
func TestLacksMixed(t *testing.T) {
	for seed := range 400 {
		d := databaseOf(t, someOf(seed%12, 2*seed)...)
		heads := probe.HeadsOf(someOf(seed%40, 2*seed+1))
		lackHeads(t, "mixed", d, heads, lacked(d, heads)...)
		lackHeads(t, "mixed, of a nil one", nil, heads, lacked(nil, heads)...)
		if t.Failed() {
			t.Fatalf("seed %d", seed)
		}
	}
}

// P13.3: when all that a database lacks of another one's heads is put into it, it lacks nothing of them.
func TestLacksNoMore(t *testing.T) {
	for seed := range 400 {
		d, e := databaseOf(t, someOf(seed%20, 2*seed)...), databaseOf(t, someOf(seed/20, 2*seed+1)...)
		all := probe.HeadsOf(e.All())
		var told []api.Head
		for s, on := New(e.All()...), true; on; on = s.Step() {
			told = append(told, s.Piece()...)
		}
		for _, heads := range [][]api.Head{told, all} {
			for _, h := range Lacks(d, heads...) {
				l, is := e.Get(api.KeyOf(h))
				if !is || l.Head != h {
					t.Errorf("seed %d: %v isn't the other one's", seed, h)
				}
				if err := d.Put(l); err != api.OK {
					t.Errorf("seed %d: Put(%v): %d", seed, l, int(err))
				}
			}
			lackHeads(t, "of the other one", d, heads)
			lackHeads(t, "of its own", d, probe.HeadsOf(d.All()))
		}
		if t.Failed() {
			t.Fatalf("seed %d", seed)
		}
	}
}

// P13.2: the keys of those of age 60, and of no others.
func TestGone(t *testing.T) {
	areGone(t, "none", nil)
	areGone(t, "none", []api.Lsa{})
	for _, age := range []int{math.MinInt64, -60, -1, 0, 1, 58, 59, 61, 120, 60 + 256, 60 + 1<<32, 3600, math.MaxInt64} {
		areGone(t, "another age", []api.Lsa{ofRouter(3, 1, age)})
		areGone(t, "another age, and 60", []api.Lsa{ofRouter(3, 1, age), ofRouter(2, 1, 60), ofRouter(2, 1, age)}, api.Key{Kind: 1, Id: 2, Adv: 2})
	}
	areGone(t, "one", []api.Lsa{ofNetwork(17, 1, 1, 60)}, api.Key{Kind: 2, Id: 17, Adv: 1})
	areGone(t, "one that isn't right", []api.Lsa{{Head: api.Head{Age: 60}}}, api.Key{})
	areGone(t, "of one key", []api.Lsa{ofRouter(3, 1, 60), ofRouter(3, 2, 60), ofRouter(3, 1, 60), ofRouter(3, 3, 59)}, api.Key{Kind: 1, Id: 3, Adv: 3})
}

// P13.2: keys are told in order, each once, in whatever order descriptions came.
func TestGoneInOrder(t *testing.T) {
	want := []api.Key{{Kind: 1, Id: 2, Adv: 2}, {Kind: 1, Id: 10, Adv: 10}, {Kind: 2, Id: 3, Adv: 2}, {Kind: 2, Id: 3, Adv: 10}}
	l := []api.Lsa{ofRouter(2, 9, 60), ofRouter(10, 8, 60), ofNetwork(3, 2, 7, 60), ofNetwork(3, 10, 6, 60), ofRouter(10, 5, 60), ofRouter(1, 4, 59), ofNetwork(3, 2, 3, 60)}
	probe.Turns(l, func(l []api.Lsa) { areGone(t, "in order", l, want...) })
	for _, n := range []int{13, 40, 300} {
		many := probe.Rising(n)
		for i := range many {
			many[i].Head.Age = 60
		}
		for seed := range 10 {
			areGone(t, "many", probe.Strewn(many, seed), keysOf(many)...)
			areGone(t, "many, each twice", probe.Strewn(append(probe.Rising(n), append(many, many...)...), seed), keysOf(many)...)
		}
	}
	ends := []api.Key{
		{Kind: math.MinInt64, Id: math.MaxInt64, Adv: 1}, {Kind: -1}, {}, {Adv: 1}, {Id: math.MaxInt64, Adv: math.MinInt64}, {Id: math.MaxInt64, Adv: math.MaxInt64},
		{Kind: 1, Id: math.MinInt64}, {Kind: 1, Id: -1}, {Kind: math.MaxInt64, Id: math.MinInt64, Adv: math.MinInt64},
	}
	var far []api.Lsa
	for _, k := range ends {
		far = append(far, api.Lsa{Head: api.Head{Age: 60, Kind: k.Kind, Id: k.Id, Adv: k.Adv}})
	}
	for seed := range 30 {
		areGone(t, "far apart", probe.Strewn(far, seed), ends...)
	}
}

// P13.1, P13.2: of each key of a list, that of age 60 is gone, and what is left is told.
func TestToldOrGone(t *testing.T) {
	for seed := range 60 {
		l := databaseOf(t, someOf(20, seed)...).All()
		old := func(x api.Lsa) bool { return x.Head.Age == 60 }
		young := func(x api.Lsa) bool { return !old(x) }
		tells(t, "told", New(probe.Strewn(l, seed)...), probe.HeadsOf(slices.DeleteFunc(slices.Clone(l), old)))
		areGone(t, "gone", probe.Strewn(l, seed), keysOf(slices.DeleteFunc(slices.Clone(l), young))...)
	}
}

// R4: descriptions that are handed in stay as they were, spare room included, and aren't kept.
func TestDescriptionsStay(t *testing.T) {
	for n := range 14 {
		l := probe.Rising(n)
		for i := range l {
			if i%3 == 1 {
				l[i].Head.Age = 60
			}
		}
		want := probe.HeadsOf(slices.DeleteFunc(slices.Clone(l), func(x api.Lsa) bool { return x.Head.Age == 60 }))
		slices.Reverse(l)
		list, whole, held := probe.RoomyLsas(l, 5, ofRouter(13, 13, 60))
		s, u, keys := New(list...), New(list...), Gone(list...)
		if !held() {
			t.Error("New or Gone changed what was handed in")
		}
		u.Step()
		tells(t, "as they came", New(list...), want)
		if !held() {
			t.Error("a summary that was walked changed what was handed in")
		}
		probe.Scribble(whole, ofRouter(9, 9, 9))
		tells(t, "scribbled behind New", s, want)
		for range max(0, (len(want)-1)/3-1) {
			u.Step()
		}
		if len(want) > 3 {
			isAt(t, "scribbled behind Step", u, probe.Triples(want)[(len(want)-1)/3], false)
		}
		if !slices.Equal(keys, Gone(l...)) {
			t.Errorf("scribbled behind Gone: %v", keys)
		}
	}
}

// R4: a piece that was answered may be written all over, spare room included, and stays as it is behind Step.
func TestPiecesAreNew(t *testing.T) {
	mark := api.Head{Age: -1, Seq: -1}
	for n := range 14 {
		want := probe.HeadsOf(probe.Rising(n))
		s := New(probe.Rising(n)...)
		for i, piece := range probe.Triples(want) {
			kept, again := s.Piece(), s.Piece()
			probe.Scribble(s.Piece(), mark)
			isAt(t, "scribbled", s, piece, i+1 < len(probe.Triples(want)))
			probe.Scribble(again, mark)
			if !slices.Equal(kept, piece) {
				t.Errorf("two pieces share memory: %v", kept)
			}
			s.Step()
			if !slices.Equal(kept, piece) {
				t.Errorf("Step changed what was answered: %v", kept)
			}
		}
		probe.Scribble(s.Piece(), mark)
		isAt(t, "scribbled at the end", s, nil, false)
	}
}

// R4: heads that are handed to Lacks stay as they were, spare room included; what it answers is nobody else's.
func TestLackedIsNew(t *testing.T) {
	mark := api.Head{Age: -1, Seq: -1}
	for seed := range 40 {
		d := databaseOf(t, someOf(seed%6, 3*seed)...)
		heads, whole := probe.Roomy(probe.HeadsOf(someOf(seed%20, 3*seed+1)), 6, ofRouter(13, 99, 0).Head)
		was, wasAll := slices.Clone(whole), d.All()
		want := lacked(d, heads)
		got, again := Lacks(d, heads...), Lacks(d, heads...)
		probe.Scribble(got, mark)
		if !slices.Equal(whole, was) {
			t.Errorf("seed %d: the heads are %v, were %v", seed, whole, was)
		}
		if !slices.Equal(again, want) {
			t.Errorf("seed %d: two answers share memory: %v, want %v", seed, again, want)
		}
		lackHeads(t, "scribbled", d, heads, want...)
		probe.Scribble(whole, mark)
		if !slices.Equal(again, want) || !sameAll(d.All(), wasAll) {
			t.Errorf("seed %d: what was answered follows what was handed in: %v, want %v", seed, again, want)
		}
	}
}

// R4: the keys that Gone answers are nobody else's, spare room included.
func TestGoneIsNew(t *testing.T) {
	for n := range 20 {
		l := probe.Rising(n)
		for i := range l {
			l[i].Head.Age = 60
		}
		l = append(l, l...)
		got, again := Gone(l...), Gone(l...)
		probe.Scribble(got, api.Key{Kind: -1})
		if !slices.Equal(again, keysOf(l[:n])) {
			t.Errorf("two answers share memory: %v", again)
		}
		areGone(t, "scribbled", l, again...)
	}
}

// R5: two summaries share nothing, of one list or of several, and are answered alike, whatever was asked of others between.
func TestSummariesApart(t *testing.T) {
	for n := range 14 {
		l := probe.Strewn(probe.Rising(n), n)
		want := probe.Triples(probe.HeadsOf(probe.Rising(n)))
		a, b, other := New(l...), New(l...), New(probe.Rising(20)[9:]...)
		for i, piece := range want {
			more := i+1 < len(want)
			isAt(t, "one", a, piece, more)
			other.Step()
			probe.Scribble(b.Piece(), api.Head{})
			probe.Scribble(other.Piece(), api.Head{})
			steps(t, "one", a, more)
			isAt(t, "the other one", b, piece, more)
			New(l...).Step()
			steps(t, "the other one", b, more)
		}
		isAt(t, "one", a, nil, false)
		isAt(t, "the other one", b, nil, false)
		tells(t, "a third one", New(l...), probe.HeadsOf(probe.Rising(n)))
	}
}
