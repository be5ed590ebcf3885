package wants

import (
	"math"
	"slices"
	"testing"

	"syndic/api"
	"syndic/lsa"
	"syndic/lsdb"
	"syndic/order"
	"syndic/probe"
	"syndic/summ"
)

// of answers the head of a router's description of this number.
func of(id, seq int) api.Head { return api.Head{Kind: api.Router, Id: id, Adv: id, Seq: seq} }

// marked answers a head that is the same as another one of its number, but can be told from it.
func marked(id, seq, long int) api.Head {
	h := of(id, seq)
	h.Long = long
	return h
}

// headed answers a head of this key, each other field of which isn't zero.
func headed(k api.Key) api.Head {
	return api.Head{Age: 3, Kind: k.Kind, Id: k.Id, Adv: k.Adv, Seq: 4, Sum: 5, Long: 6}
}

// wanted answers a list of which these are wanted.
func wanted(heads ...api.Head) *Wants {
	w := New()
	w.Add(heads...)
	return w
}

// holds holds that just these are wanted, which are told in order, however often it is asked.
func holds(t *testing.T, name string, w *Wants, want ...api.Head) {
	t.Helper()
	for range 2 {
		if got := w.All(); !slices.Equal(got, want) {
			t.Errorf("%s: All() = %v, want %v", name, got, want)
		}
		if got, first := w.Ask(), probe.KeysOf(want[:min(len(want), 3)]); !slices.Equal(got, first) {
			t.Errorf("%s: Ask() = %v, want %v", name, got, first)
		}
		if got := w.Len(); got != len(want) {
			t.Errorf("%s: Len() = %d, want %d", name, got, len(want))
		}
	}
	for _, h := range want {
		if got, is := w.Get(api.KeyOf(h)); !is || got != h {
			t.Errorf("%s: Get(%v) = %v, %v, want %v", name, api.KeyOf(h), got, is, h)
		}
	}
}

// hasNot holds that nothing of these keys is wanted, and that asking for them, and taking them, changes nothing.
func hasNot(t *testing.T, name string, w *Wants, keys ...api.Key) {
	t.Helper()
	was := w.All()
	for _, k := range keys {
		if got, is := w.Get(k); is || got != (api.Head{}) {
			t.Errorf("%s: Get(%v) = %v, %v of nothing", name, k, got, is)
		}
		takes(t, name, w, headed(k), api.ErrNone)
		takes(t, name, w, api.Head{Kind: k.Kind, Id: k.Id, Adv: k.Adv, Seq: math.MinInt64}, api.ErrNone)
	}
	holds(t, name, w, was...)
}

// adds holds how many are wanted behind Add.
func adds(t *testing.T, name string, w *Wants, want int, heads ...api.Head) {
	t.Helper()
	if got := w.Add(heads...); got != want {
		t.Errorf("%s: Add(%v) = %d, want %d", name, heads, got, want)
	}
}

// takes holds what Take answers.
func takes(t *testing.T, name string, w *Wants, h api.Head, want api.Errno) {
	t.Helper()
	if got := w.Take(h); got != want {
		t.Errorf("%s: Take(%v) = %d, want %d", name, h, int(got), int(want))
	}
}

// clears holds how many were wanted when all is cleared, and that nothing is wanted any more.
func clears(t *testing.T, name string, w *Wants, want int) {
	t.Helper()
	was := w.All()
	if got := w.Clear(); got != want {
		t.Errorf("%s: Clear() = %d, want %d", name, got, want)
	}
	holds(t, name+", cleared", w)
	hasNot(t, name+", cleared", w, probe.KeysOf(was)...)
}

// P15.1: the chapter's example: four are added: Ask tells three keys.
func TestChapterExample(t *testing.T) {
	w := New()
	adds(t, "four", w, 4, of(4, 1), of(2, 1), of(3, 1), of(1, 1))
	if got, want := w.Ask(), probe.KeysOf([]api.Head{of(1, 1), of(2, 1), of(3, 1)}); !slices.Equal(got, want) {
		t.Errorf("Ask() = %v, want %v", got, want)
	}
}

// P15.1: of what is new nothing is wanted.
func TestNew(t *testing.T) {
	w := New()
	if w == nil {
		t.Fatal("New answers nil")
	}
	holds(t, "new", w)
	hasNot(t, "new", w, api.Key{}, api.Key{Kind: 1, Id: 1, Adv: 1}, api.Key{Kind: math.MinInt64, Id: math.MaxInt64, Adv: -1})
	clears(t, "new", w, 0)
}

// P15.1: Add of none answers how many are wanted, and changes nothing.
func TestAddNothing(t *testing.T) {
	for n := range 6 {
		all := probe.HeadsOf(probe.Rising(n))
		w := wanted(all...)
		adds(t, "none", w, n)
		adds(t, "none", w, n, []api.Head{}...)
		adds(t, "none", w, n, nil...)
		holds(t, "none added", w, all...)
	}
}

// P15.1: heads of keys of their own are all wanted, whatever order they come in, in one call or in several, and are told in the order of keys.
func TestAddInAnyOrder(t *testing.T) {
	for n := range 7 {
		all := probe.HeadsOf(probe.Rising(n))
		probe.Turns(slices.Clone(all), func(heads []api.Head) {
			w := New()
			adds(t, "at once", w, n, heads...)
			holds(t, "at once", w, all...)
			w = New()
			for i, h := range heads {
				adds(t, "one by one", w, i+1, h)
			}
			holds(t, "one by one", w, all...)
			w = New()
			adds(t, "in two calls", w, n/2, heads[:n/2]...)
			adds(t, "in two calls", w, n, heads[n/2:]...)
			holds(t, "in two calls", w, all...)
			adds(t, "all once more", w, n, heads...)
			holds(t, "all once more", w, all...)
		})
	}
	for _, n := range []int{8, 9, 12, 13, 39, 40, 41, 120, 1000} {
		all := probe.HeadsOf(probe.Rising(n))
		for seed := range 5 {
			w := New()
			adds(t, "many", w, n, probe.Strewn(all, seed)...)
			holds(t, "many", w, all...)
		}
	}
}

// P15.1: a head is wanted as it stands, whether or not there may be a description of it.
func TestAsItStands(t *testing.T) {
	for _, h := range []api.Head{
		{},
		lsa.Seal(api.Lsa{Head: of(3, 7)}).Head,
		{Age: 60, Kind: 2, Id: 17, Adv: 1, Seq: 5, Sum: 6, Long: 28},
		{Age: -1, Kind: -2, Id: -3, Adv: -4, Seq: -5, Sum: -6, Long: -7},
		{Age: math.MaxInt64, Kind: math.MinInt64, Id: math.MaxInt64, Adv: math.MinInt64, Seq: math.MinInt64, Sum: math.MaxInt64, Long: math.MinInt64},
	} {
		w := New()
		adds(t, "as it stands", w, 1, h)
		holds(t, "as it stands", w, h)
		takes(t, "as it stands", w, h, api.OK)
		holds(t, "as it stands, taken", w)
	}
}

// P15.1: heads whose keys differ in one field alone are wanted beside each other: Add, Get and Take tell them apart.
func TestKeysApart(t *testing.T) {
	k := api.Key{Kind: 2, Id: 5, Adv: 9}
	h := headed(k)
	w := wanted(h)
	hasNot(t, "keys apart", w, probe.Apart(k)...)
	for i, other := range probe.Apart(k) {
		adds(t, "keys apart", w, 2+i, headed(other))
		if got, is := w.Get(other); !is || got != headed(other) {
			t.Errorf("Get(%v) = %v, %v", other, got, is)
		}
	}
	for i, other := range probe.Apart(k) {
		takes(t, "keys apart", w, headed(other), api.OK)
		if got := w.Len(); got != len(probe.Apart(k))-i {
			t.Errorf("Len() = %d behind %d that were taken", got, i+1)
		}
	}
	holds(t, "the others taken", w, h)
}

// P15.1: of two heads of one key the newer one is wanted, whichever came first; where they are the same, the one that was wanted already stays.
func TestAddOfOneKey(t *testing.T) {
	for _, c := range []struct {
		name string
		a, b api.Head // a is newer than b, or both are the same
		same bool
	}{
		{"by number", api.Head{Seq: 2}, api.Head{Seq: 1}, false},
		{"by number, of a lesser sum, of age 59", api.Head{Seq: 2, Age: 59}, api.Head{Seq: 1, Sum: 9}, false},
		{"by number, against one of age 60", api.Head{Seq: 2}, api.Head{Seq: 1, Sum: 9, Age: 60}, false},
		{"by number, below 0", api.Head{Seq: -1}, api.Head{Seq: api.FirstSeq}, false},
		{"by sum", api.Head{Seq: 2, Sum: 8, Age: 59}, api.Head{Seq: 2, Sum: 7}, false},
		{"by age 60", api.Head{Age: 60}, api.Head{Age: 0}, false},
		{"by age 60, near", api.Head{Age: 60}, api.Head{Age: 59}, false},
		{"younger by 7", api.Head{Age: 3}, api.Head{Age: 10}, false},
		{"younger by 6", api.Head{Age: 4, Long: 1}, api.Head{Age: 10, Long: 2}, true},
		{"of age 60, both", api.Head{Age: 60, Long: 1}, api.Head{Age: 60, Long: 2}, true},
		{"but for what isn't asked", api.Head{Long: 1}, api.Head{Long: 2}, true},
	} {
		for _, k := range []api.Key{{Kind: 1, Id: 4, Adv: 4}, {}, {Kind: 2, Id: -1, Adv: math.MaxInt64}} {
			a, b := c.a, c.b
			a.Kind, a.Id, a.Adv = k.Kind, k.Id, k.Adv
			b.Kind, b.Id, b.Adv = k.Kind, k.Id, k.Adv
			stays := a
			if c.same {
				stays = b
			}
			holdsOne(t, c.name, a, a, b)
			holdsOne(t, c.name, stays, b, a)
			holdsOne(t, c.name, a, a, a)
			holdsOne(t, c.name, a, a, b, a)
			holdsOne(t, c.name, stays, b, a, b)
		}
	}
}

// holdsOne holds which one of several of one key is wanted, when they are added in one call, in several, and among others.
func holdsOne(t *testing.T, name string, want api.Head, heads ...api.Head) {
	t.Helper()
	once, several, among := New(), New(), New()
	adds(t, name, once, 1, heads...)
	holds(t, name+", in one call", once, want)
	for _, h := range heads {
		adds(t, name, several, 1, h)
	}
	holds(t, name+", in several", several, want)
	late := []api.Head{{Kind: math.MaxInt64, Seq: 3}}
	adds(t, name, among, 2, slices.Concat(late, heads, late)...)
	holds(t, name+", among others", among, want, late[0])
}

// P15.1: of several of one key they are held against what is wanted one by one, though that isn't the newest one of all then.
func TestAddOneByOne(t *testing.T) {
	aged := func(age int) api.Head {
		h := of(3, 6)
		h.Age = age
		return h
	}
	holdsOne(t, "7 stays behind 13", aged(13), aged(13), aged(7))
	holdsOne(t, "6 is newer than 13", aged(6), aged(13), aged(7), aged(6))
	holdsOne(t, "13 and 7 are the same", aged(7), aged(7), aged(13))
	holdsOne(t, "by sixes", aged(18), aged(18), aged(12), aged(18), aged(12))
	holdsOne(t, "of age 60 last", aged(60), aged(13), aged(0), aged(60))
	holdsOne(t, "of age 60 first", aged(60), aged(60), aged(0), aged(13))
}

// P15.1: how many are wanted is how many keys there are, in whatever order newer, older and the same ones of several keys come.
func TestAddOfSeveralKeys(t *testing.T) {
	probe.Turns([]api.Head{of(2, 5), of(2, 6), of(1, 9), of(1, 8), of(7, 1), marked(3, 3, 1)}, func(heads []api.Head) {
		w := New()
		adds(t, "of four keys", w, 4, heads...)
		holds(t, "of four keys", w, of(1, 9), of(2, 6), marked(3, 3, 1), of(7, 1))
		adds(t, "the same, and older ones", w, 4, marked(2, 6, 9), of(1, 8), marked(3, 3, 2), of(7, 0))
		holds(t, "the same, and older ones", w, of(1, 9), of(2, 6), marked(3, 3, 1), of(7, 1))
		adds(t, "newer ones, and one more", w, 5, of(7, 2), of(4, 0), marked(3, 4, 2))
		holds(t, "newer ones, and one more", w, of(1, 9), of(2, 6), marked(3, 4, 2), of(4, 0), of(7, 2))
	})
}

// P15.1: all that is wanted is told in the order of Kind, then Id, then Adv, as numbers; nothing else of a head bears on it.
func TestAllInOrder(t *testing.T) {
	want := probe.Far()
	for seed := range 60 {
		holds(t, "in order", wanted(probe.Strewn(want, seed)...), want...)
	}
}

// P15.1: Ask tells the keys of the first three, of all, if there are fewer, and the next ones when these were taken.
func TestAsk(t *testing.T) {
	for _, n := range []int{0, 1, 2, 3, 4, 5, 6, 7, 40, 100} {
		all := probe.HeadsOf(probe.Rising(n))
		w := wanted(probe.Strewn(all, n)...)
		for at := 0; at < n; at += 3 {
			want := all[at:min(at+3, n)]
			if got := w.Ask(); !slices.Equal(got, probe.KeysOf(want)) {
				t.Errorf("%d wanted: Ask() = %v, want %v", n-at, got, probe.KeysOf(want))
			}
			for _, h := range want {
				takes(t, "asked for", w, h, api.OK)
			}
		}
		if got := w.Ask(); len(got) != 0 {
			t.Errorf("all %d taken: Ask() = %v", n, got)
		}
	}
}

// P15.1: Ask goes by keys: what comes to be wanted ahead of others is asked for first.
func TestAskOfLateOnes(t *testing.T) {
	w := wanted(of(9, 1), of(8, 1), of(7, 1))
	w.Add(of(5, 1))
	holds(t, "one ahead", w, of(5, 1), of(7, 1), of(8, 1), of(9, 1))
	w.Add(of(6, 1), of(10, 1))
	holds(t, "one between, one behind", w, of(5, 1), of(6, 1), of(7, 1), of(8, 1), of(9, 1), of(10, 1))
	takes(t, "the midst", w, of(6, 1), api.OK)
	holds(t, "the midst taken", w, of(5, 1), of(7, 1), of(8, 1), of(9, 1), of(10, 1))
}

// P15.1: what is the same as what is wanted, or newer, is taken; what is older isn't, and it stays wanted.
func TestTake(t *testing.T) {
	h := api.Head{Age: 20, Kind: 2, Id: 5, Adv: 3, Seq: 5, Sum: 100, Long: 28}
	below, above := api.Head{Kind: 1, Id: 5, Adv: 3, Seq: 1}, api.Head{Kind: 2, Id: 5, Adv: 4, Seq: 9}
	for _, c := range []struct {
		name             string
		age, number, sum int // of the one that is taken, these two beyond the wanted one's
		want             api.Errno
	}{
		{"it itself", 20, 0, 0, api.OK},
		{"a greater number", 20, 1, 0, api.OK},
		{"a greater number, of a lesser sum, older", 59, 1, -9, api.OK},
		{"a greater number by far", 20, 1 << 40, 0, api.OK},
		{"a lesser number", 20, -1, 0, api.ErrOld},
		{"a lesser number, of a greater sum, younger", 0, -1, 9, api.ErrOld},
		{"a lesser number, of age 60", 60, -1, 9, api.ErrOld},
		{"a greater sum", 20, 0, 1, api.OK},
		{"a greater sum, older", 59, 0, 1, api.OK},
		{"a lesser sum", 20, 0, -1, api.ErrOld},
		{"a lesser sum, younger", 0, 0, -1, api.ErrOld},
		{"a lesser sum, of age 60", 60, 0, -1, api.ErrOld},
		{"of age 60", 60, 0, 0, api.OK},
		{"7 younger", 13, 0, 0, api.OK},
		{"6 younger", 14, 0, 0, api.OK},
		{"6 older", 26, 0, 0, api.OK},
		{"7 older", 27, 0, 0, api.ErrOld},
		{"of age 59", 59, 0, 0, api.ErrOld},
		{"of age 0", 0, 0, 0, api.OK},
	} {
		got := h
		got.Age, got.Seq, got.Sum, got.Long = c.age, h.Seq+c.number, h.Sum+c.sum, 7
		w, alone := wanted(above, h, below), wanted(h)
		for range 3 {
			takes(t, c.name, w, got, c.want)
			takes(t, c.name+", alone", alone, got, c.want)
			if c.want == api.OK {
				holds(t, c.name, w, below, above)
				holds(t, c.name+", alone", alone)
				c.want = api.ErrNone
			} else if c.want == api.ErrOld {
				holds(t, c.name, w, below, h, above)
				holds(t, c.name+", alone", alone, h)
			}
		}
	}
}

// P15.1: against one of age 60 that is wanted one of its number and sum, of another age, is older.
func TestTakeAgainstAge60(t *testing.T) {
	h := api.Head{Age: 60, Kind: 1, Id: 5, Adv: 5, Seq: 5, Sum: 9}
	for age := range 60 {
		got := h
		got.Age = age
		w := wanted(h)
		takes(t, "not of age 60", w, got, api.ErrOld)
		holds(t, "not of age 60", w, h)
	}
	w := wanted(h)
	takes(t, "of age 60", w, h, api.OK)
	holds(t, "of age 60", w)
}

// P15.1: what was taken is wanted no more: the same one once more is none, and what is added behind it is wanted, though it is older.
func TestTakeAndAdd(t *testing.T) {
	for n := 1; n < 5; n++ {
		all := probe.HeadsOf(probe.Rising(n))
		probe.Turns(slices.Clone(all), func(heads []api.Head) {
			w := wanted(all...)
			rest := slices.Clone(all)
			for _, h := range heads {
				takes(t, "one by one", w, h, api.OK)
				takes(t, "one by one, once more", w, h, api.ErrNone)
				rest = slices.DeleteFunc(rest, func(g api.Head) bool { return g == h })
				holds(t, "one by one", w, rest...)
			}
			older := heads[0]
			older.Seq--
			adds(t, "an older one", w, 1, older)
			holds(t, "an older one", w, older)
			takes(t, "an older one", w, heads[0], api.OK)
			holds(t, "an older one taken", w)
		})
	}
}

// P15.1: of a key of which nothing is wanted nothing is taken, however new it is.
func TestTakeNone(t *testing.T) {
	for n := range 6 {
		all := probe.HeadsOf(probe.Rising(n))
		w := wanted(all...)
		hasNot(t, "others", w, api.Key{Kind: 9}, api.Key{Kind: 1, Id: 0, Adv: 4}, api.Key{Kind: 1, Id: 1, Adv: 15})
		takes(t, "the newest", w, api.Head{Kind: 9, Seq: math.MaxInt64, Sum: math.MaxInt64, Age: 60}, api.ErrNone)
		takes(t, "the oldest", w, api.Head{Kind: 9, Seq: math.MinInt64, Sum: math.MinInt64, Age: 59}, api.ErrNone)
		holds(t, "others", w, all...)
	}
}

// P15.1: Clear tells how many were wanted, 0 the second time, and what is added behind it is wanted, though it is older.
func TestClear(t *testing.T) {
	for _, n := range []int{0, 1, 2, 3, 4, 40, 300} {
		all := probe.HeadsOf(probe.Rising(n))
		w := wanted(probe.Strewn(all, n)...)
		clears(t, "once", w, n)
		clears(t, "twice", w, 0)
		for i := range all {
			all[i].Seq--
		}
		adds(t, "behind Clear", w, n, all...)
		holds(t, "behind Clear", w, all...)
		if n > 0 {
			takes(t, "behind Clear", w, all[0], api.OK)
			clears(t, "one of them taken", w, n-1)
		}
		adds(t, "another one", w, 1, of(3, 3))
		clears(t, "another one", w, 1)
	}
}

// P15.1, R1: of a nil list nothing is wanted, ever.
func TestNilWants(t *testing.T) {
	var w *Wants
	for range 3 {
		adds(t, "nil", w, 0)
		adds(t, "nil", w, 0, of(1, 1))
		adds(t, "nil", w, 0, of(2, 1), of(1, 1), of(2, 2))
		holds(t, "nil", w)
		hasNot(t, "nil", w, api.Key{}, api.Key{Kind: 1, Id: 1, Adv: 1}, api.Key{Kind: 1, Id: 2, Adv: 2})
		clears(t, "nil", w, 0)
	}
}

// list is what is wanted told another way: heads side by side, as they came.
type list struct{ heads []api.Head }

// at answers the place of a key, -1, if nothing of it is wanted.
func (l *list) at(k api.Key) int {
	return slices.IndexFunc(l.heads, func(h api.Head) bool { return api.KeyOf(h) == k })
}

// add makes one wanted.
func (l *list) add(h api.Head) {
	at := l.at(api.KeyOf(h))
	if at < 0 {
		l.heads = append(l.heads, h)
	} else {
		two := []api.Head{l.heads[at], h}
		l.heads[at] = two[order.Best(two...)]
	}
}

// take tells what comes of one that a router has.
func (l *list) take(h api.Head) api.Errno {
	at := l.at(api.KeyOf(h))
	switch {
	case at < 0:
		return api.ErrNone
	case order.Newer(h, l.heads[at]) == -1:
		return api.ErrOld
	}
	l.heads = slices.Delete(l.heads, at, at+1)
	return api.OK
}

// sorted answers what is wanted in order.
func (l *list) sorted() []api.Head {
	var out []api.Head
	for kind := range 3 {
		for id := range 4 {
			for adv := range 3 {
				if at := l.at(api.Key{Kind: kind, Id: id, Adv: adv}); at >= 0 {
					out = append(out, l.heads[at])
				}
			}
		}
	}
	return out
}

// anyHead answers a head of one of a few keys, of a number and an age near others'; i tells it from those it is the same as.
func anyHead(a, b byte, i int) api.Head {
	age := []int{0, 5, 6, 7, 12, 13, 14, 59, 60}[b%9]
	return api.Head{Age: age, Kind: int(a) % 3, Id: int(a) / 3 % 4, Adv: int(a) / 12 % 3, Seq: int(a) / 36 % 3, Sum: int(b) / 9 % 2, Long: i}
}

// P15.1, R5: many calls without a plain rule are answered as what is told another way.
func TestMixed(t *testing.T) {
	for seed := range 60 {
		w, l := New(), &list{}
		m := probe.Mixed(900, seed)
		for i := 0; i < len(m); i += 3 {
			h := anyHead(m[i+1], m[i+2], i)
			switch what := m[i] % 64; {
			case what == 0:
				clears(t, "mixed", w, len(l.heads))
				l.heads = nil
			case what < 24:
				takes(t, "mixed", w, h, l.take(h))
			default:
				h, g := anyHead(m[i+1], m[i], -i), h
				l.add(h)
				l.add(g)
				adds(t, "mixed", w, len(l.heads), h, g)
			}
			holds(t, "mixed", w, l.sorted()...)
		}
		if t.Failed() {
			t.Fatalf("seed %d", seed)
		}
	}
}

// known answers descriptions that are right, sealed, of keys of their own, in order, with lists of both kinds among them; n is 40 at most.
func known(n int) []api.Lsa {
	var out []api.Lsa
	for i := range n {
		l := api.Lsa{Head: api.Head{Age: i % 61, Kind: api.Router, Id: 1 + i, Adv: 1 + i, Seq: 7 - i}}
		if i >= api.MaxId {
			l.Head.Kind, l.Head.Id, l.Head.Adv = api.Network, i/4, 1+i%4
			l.Members = []int{1 + i%4, 5 + i%9}
		}
		for c := range i % 4 {
			if l.Members == nil {
				l.Links = append(l.Links, api.Link{Kind: api.Stub, Id: api.Addr(c, 0), Data: api.Addr(c, 1+i), Cost: 1 + c + i})
			}
		}
		out = append(out, lsa.Seal(l))
	}
	return out
}

// keeps makes a database keep descriptions.
func keeps(t *testing.T, d *lsdb.Db, l ...api.Lsa) {
	t.Helper()
	for _, x := range l {
		if err := d.Put(x); err != api.OK {
			t.Fatalf("Put(%v): %d", x, int(err))
		}
	}
}

// knows answers a database of these.
func knows(t *testing.T, l ...api.Lsa) *lsdb.Db {
	t.Helper()
	d := lsdb.New(api.MaxLsas)
	keeps(t, d, l...)
	return d
}

// same tells whether two lists have the same descriptions.
func same(a, b []api.Lsa) bool { return slices.EqualFunc(a, b, lsa.Same) }

// answered holds what a database answers to keys, and whether it has them all, twice, and that it is as it was.
func answered(t *testing.T, name string, d *lsdb.Db, keys []api.Key, all bool, want ...api.Lsa) {
	t.Helper()
	was := d.All()
	for range 2 {
		if got, is := Answer(d, keys...); is != all || !same(got, want) {
			t.Errorf("%s: Answer(d, %v) = %v, %v, want %v, %v", name, keys, got, is, want, all)
		}
	}
	if !same(d.All(), was) {
		t.Errorf("%s: Answer made the database %v, was %v", name, d.All(), was)
	}
}

// answers holds the descriptions that a database answers to keys.
func answers(t *testing.T, name string, d *lsdb.Db, keys []api.Key, want ...api.Lsa) {
	t.Helper()
	answered(t, name, d, keys, true, want...)
}

// hasNoAnswer holds that nothing is answered to keys.
func hasNoAnswer(t *testing.T, name string, d *lsdb.Db, keys ...api.Key) {
	t.Helper()
	answered(t, name, d, keys, false)
}

// P15.2: of no keys nothing is answered, and nothing is missing.
func TestAnswerNoKeys(t *testing.T) {
	for _, d := range []*lsdb.Db{nil, lsdb.New(1), knows(t, known(1)...), knows(t, known(40)...)} {
		answers(t, "no keys", d, nil)
		answers(t, "no keys", d, []api.Key{})
	}
}

// P15.2: descriptions are answered in the order of the keys that are handed in, as many as there are of these.
func TestAnswer(t *testing.T) {
	all := known(40)
	d := knows(t, probe.Strewn(all, 3)...)
	for _, l := range all {
		answers(t, "one", d, []api.Key{api.KeyOf(l.Head)}, l)
	}
	for n := range 41 {
		for seed := range 8 {
			some := probe.Strewn(all, seed)[:n]
			answers(t, "some", d, probe.KeysOf(probe.HeadsOf(some)), some...)
		}
	}
	few := []api.Lsa{all[3], all[20], all[9], all[31], all[0]}
	probe.Turns(few, func(l []api.Lsa) { answers(t, "in any order", d, probe.KeysOf(probe.HeadsOf(l)), l...) })
}

// P15.2: a key that comes twice is answered twice.
func TestAnswerTwice(t *testing.T) {
	all := known(20)
	d := knows(t, all...)
	l := []api.Lsa{all[2], all[2], all[17], all[2], all[17]}
	probe.Turns(l, func(l []api.Lsa) { answers(t, "twice", d, probe.KeysOf(probe.HeadsOf(l)), l...) })
	many := slices.Repeat(all, 20)
	answers(t, "often", d, probe.KeysOf(probe.HeadsOf(many)), many...)
}

// P15.2: one that the database lacks, wherever it stands, makes the answer none.
func TestAnswerLacked(t *testing.T) {
	all := known(9)
	for lacked := range all {
		d := knows(t, slices.Delete(slices.Clone(all), lacked, lacked+1)...)
		k := api.KeyOf(all[lacked].Head)
		hasNoAnswer(t, "alone", d, k)
		for n := 1; n < 9; n++ {
			some := probe.KeysOf(probe.HeadsOf(d.All()[:n]))
			for at := range n + 1 {
				hasNoAnswer(t, "among others", d, slices.Insert(slices.Clone(some), at, k)...)
			}
			hasNoAnswer(t, "at both ends", d, append(append([]api.Key{k}, some...), k)...)
		}
	}
	hasNoAnswer(t, "all of them", knows(t, all[0]), probe.KeysOf(probe.HeadsOf(all[1:]))...)
}

// P15.2: a key that differs in one field alone from one that there is, is lacked.
func TestAnswerKeysApart(t *testing.T) {
	for _, l := range []api.Lsa{known(40)[4], known(40)[22]} {
		d := knows(t, l)
		k := api.KeyOf(l.Head)
		for _, other := range probe.Apart(k) {
			hasNoAnswer(t, "apart", d, other)
			hasNoAnswer(t, "apart, behind it", d, k, other)
			hasNoAnswer(t, "apart, ahead of it", d, other, k)
		}
		answers(t, "it itself", d, []api.Key{k}, l)
	}
}

// P15.2: an empty database, and a nil one, lack each key.
func TestAnswerOfNothing(t *testing.T) {
	for _, d := range []*lsdb.Db{nil, lsdb.New(1), lsdb.New(40)} {
		hasNoAnswer(t, "nothing", d, api.Key{})
		hasNoAnswer(t, "nothing", d, api.Key{Kind: math.MinInt64, Id: math.MaxInt64, Adv: -1})
		hasNoAnswer(t, "nothing", d, probe.KeysOf(probe.HeadsOf(known(40)))...)
	}
}

// P15.2: what is answered is what the database has now: grown older, newer, or gone.
func TestAnswerOfNow(t *testing.T) {
	old := known(3)
	d := knows(t, old...)
	keys := probe.KeysOf(probe.HeadsOf(old))
	d.Tick()
	aged := slices.Clone(old)
	for i := range aged {
		aged[i].Head.Age++
	}
	answers(t, "a tick older", d, keys, aged...)
	newer := api.Lsa{Head: old[1].Head, Links: []api.Link{{Kind: api.Stub, Id: api.Addr(3, 0), Data: api.Addr(3, 2), Cost: 77}}}
	newer.Head.Seq++
	keeps(t, d, newer)
	answers(t, "a newer one", d, keys, aged[0], lsa.Seal(newer), aged[2])
	d.Drop(keys[0])
	hasNoAnswer(t, "one gone", d, keys...)
	answers(t, "the others", d, keys[1:], lsa.Seal(newer), aged[2])
}

// fetches makes a database know all that is wanted of another one, by asking, putting what is answered and taking it, and answers how many questions that were.
func fetches(t *testing.T, d, other *lsdb.Db, w *Wants) int {
	t.Helper()
	asked := 0
	for ; w.Len() > 0; asked++ {
		keys, was := w.Ask(), w.Len()
		if len(keys) != min(was, 3) {
			t.Fatalf("%d wanted: Ask() = %v", was, keys)
		}
		got, is := Answer(other, keys...)
		if !is || len(got) != len(keys) {
			t.Fatalf("Answer(other, %v) = %v, %v", keys, got, is)
		}
		keeps(t, d, got...)
		for _, l := range got {
			takes(t, "answered", w, l.Head, api.OK)
		}
		if w.Len() != was-len(keys) {
			t.Fatalf("%d wanted, %d taken: Len() = %d", was, len(keys), w.Len())
		}
	}
	return asked
}

// P15.3: who lacks some of what another one has asks for it by threes, and lacks nothing of it any more behind just as many questions as there are threes.
func TestFetchesAll(t *testing.T) {
	for n := range 41 {
		for seed := range 8 {
			all := known(40)
			lacked := probe.Strewn(all, 50*n+seed)[:n]
			d := knows(t, all...)
			for i, l := range lacked {
				d.Drop(api.KeyOf(l.Head))
				if older := l; i%2 == 1 {
					older.Head.Seq--
					keeps(t, d, lsa.Seal(older))
				}
			}
			other, w := knows(t, all...), New()
			heads := probe.HeadsOf(all)
			adds(t, "lacked", w, n, summ.Lacks(d, heads...)...)
			if got := fetches(t, d, other, w); got != (n+2)/3 {
				t.Errorf("%d lacked: %d questions", n, got)
			}
			holds(t, "all fetched", w)
			if got := summ.Lacks(d, heads...); len(got) != 0 || !same(d.All(), other.All()) {
				t.Errorf("%d fetched: %v are lacked; it has %v, the other one %v", n, got, d.All(), other.All())
			}
		}
	}
}

// P15.3: of what is told in pieces each one's heads may be added by themselves, and of two that are asked by turns each gets what the other one has.
func TestFetchesOfEachOther(t *testing.T) {
	for seed := range 40 {
		all := known(40)
		for i := range all {
			all[i].Head.Age = i % 60
		}
		d, e := knows(t, probe.Strewn(all, seed)[:seed]...), knows(t, probe.Strewn(all, seed+1)[:40-seed]...)
		for _, two := range [][2]*lsdb.Db{{d, e}, {e, d}} {
			w := New()
			for s, on := summ.New(two[1].All()...), true; on; on = s.Step() {
				w.Add(summ.Lacks(two[0], s.Piece()...)...)
			}
			n := w.Len()
			if got := fetches(t, two[0], two[1], w); got != (n+2)/3 {
				t.Errorf("%d lacked: %d questions", n, got)
			}
			if got := summ.Lacks(two[0], probe.HeadsOf(two[1].All())...); len(got) != 0 {
				t.Errorf("seed %d: %v are lacked", seed, got)
			}
		}
		if !same(d.All(), e.All()) {
			t.Errorf("seed %d: one has %v, the other one %v", seed, d.All(), e.All())
		}
	}
}

// P15.3: what came to be newer since it was told is taken likewise; what is older than what is wanted stays wanted.
func TestFetchesNewerOnes(t *testing.T) {
	d, all := lsdb.New(40), known(7)
	other := knows(t, all...)
	w := wanted(probe.HeadsOf(all)...)
	for _, l := range all {
		l.Head.Seq++
		keeps(t, other, l)
	}
	if got := fetches(t, d, other, w); got != 3 || !same(d.All(), other.All()) {
		t.Errorf("%d questions; it has %v, the other one %v", got, d.All(), other.All())
	}
	later := all[0].Head
	later.Seq += 2
	w.Add(later)
	got, is := Answer(other, w.Ask()...)
	if !is || len(got) != 1 {
		t.Fatalf("Answer: %v, %v", got, is)
	}
	takes(t, "older than what is wanted", w, got[0].Head, api.ErrOld)
	holds(t, "older than what is wanted", w, later)
}

// R4: heads and keys that are handed in stay as they were, spare room included, and aren't kept.
func TestHandedInStays(t *testing.T) {
	mark := of(13, 99)
	for n := range 14 {
		all := probe.HeadsOf(probe.Rising(n))
		heads, whole := probe.Roomy(probe.Strewn(append(all, all...), n), 5, mark)
		was := slices.Clone(whole)
		w := New()
		adds(t, "roomy", w, n, heads...)
		if !slices.Equal(whole, was) {
			t.Errorf("Add made what was handed in %v, was %v", whole, was)
		}
		probe.Scribble(heads, api.Head{Age: -1, Seq: math.MaxInt64})
		holds(t, "scribbled", w, all...)
		if n > 0 {
			takes(t, "scribbled", w, all[0], api.OK)
			clears(t, "scribbled", w, n-1)
		}
	}
	known := known(9)
	d := knows(t, known...)
	for n := range 10 {
		keys, whole := probe.Roomy(probe.KeysOf(probe.HeadsOf(probe.Strewn(known, n)[:n])), 5, api.Key{Kind: 1, Id: 1, Adv: 1})
		was := slices.Clone(whole)
		got, _ := Answer(d, keys...)
		hasNoAnswer(t, "roomy", d, append(keys[:n:n], api.Key{})...)
		if !slices.Equal(whole, was) {
			t.Errorf("Answer made what was handed in %v, was %v", whole, was)
		}
		probe.Scribble(keys, api.Key{Kind: -1})
		if !same(got, probe.Strewn(known, n)[:n]) {
			t.Errorf("scribbled behind Answer: %v", got)
		}
	}
}

// R4: the lists that were answered may be written all over, spare room included, and stay as they are behind later calls.
func TestListsAreNew(t *testing.T) {
	headMark, keyMark := api.Head{Age: -1, Seq: -1}, api.Key{Kind: -1}
	for n := range 14 {
		all := probe.HeadsOf(probe.Rising(n))
		w := wanted(probe.Strewn(all, n)...)
		keptAll, keptAsk := w.All(), w.Ask()
		first := probe.KeysOf(all[:min(n, 3)])
		for range 2 {
			probe.Scribble(w.All(), headMark)
			probe.Scribble(w.Ask(), keyMark)
			holds(t, "scribbled", w, all...)
		}
		adds(t, "one more", w, n+1, of(99, 1))
		w.Clear()
		if !slices.Equal(keptAll, all) || !slices.Equal(keptAsk, first) {
			t.Errorf("what was answered is %v and %v by now, was %v", keptAll, keptAsk, all)
		}
	}
}

// R4: descriptions that were answered may be changed, their lists and spare room included: neither the database nor another answer changes, nor another one of its own key in the same answer.
func TestAnsweredIsNew(t *testing.T) {
	all := known(20)
	d := knows(t, all...)
	for n := range 21 {
		l := probe.Strewn(all, n)[:n]
		keys := probe.KeysOf(probe.HeadsOf(append(l, l...)))
		want := append(slices.Clone(l), l...)
		got, _ := Answer(d, keys...)
		again, _ := Answer(d, keys...)
		for i := range n {
			probe.ScribbleLsa(got[i])
			if !same(got[n:], l) || !lsa.Same(got[n+i], l[i]) {
				t.Fatalf("two of one answer share memory: %v", got[n+i])
			}
		}
		probe.Scribble(got, api.Lsa{Head: api.Head{Age: -1}})
		if !same(again, want) {
			t.Errorf("two answers share memory: %v, want %v", again, want)
		}
		answers(t, "scribbled", d, keys, want...)
		keeps(t, d, all...)
		if !same(again, want) {
			t.Errorf("what was answered follows the database: %v, want %v", again, want)
		}
	}
}

// R5: two lists share nothing, and the same calls are answered alike, whatever was asked of others between.
func TestListsApart(t *testing.T) {
	for n := range 12 {
		all := probe.HeadsOf(probe.Rising(n))
		a, b, other := New(), New(), wanted(all...)
		for i, h := range probe.Strewn(all, n) {
			adds(t, "one", a, i+1, h)
			holds(t, "another one", b, probe.HeadsOf(probe.Rising(i))...)
			other.Take(h)
			other.Add(of(99, i))
			adds(t, "another one", b, i+1, all[i])
		}
		holds(t, "one", a, all...)
		holds(t, "another one", b, all...)
		if n > 0 {
			holds(t, "a third one", other, of(99, n-1))
		}
		for i, h := range all {
			takes(t, "one", a, h, api.OK)
			holds(t, "one", a, all[i+1:]...)
			holds(t, "another one", b, all...)
		}
		clears(t, "another one", b, n)
		clears(t, "one", a, 0)
	}
}
