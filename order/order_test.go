package order

import (
	"math"
	"slices"
	"testing"

	"syndic/api"
	"syndic/probe"
)

// aged answers heads of one number and one sum, of these ages.
func aged(ages ...int) []api.Head {
	var out []api.Head
	for _, a := range ages {
		out = append(out, api.Head{Age: a, Kind: api.Router, Id: 2, Adv: 2, Seq: 4, Sum: 700, Long: 24})
	}
	return out
}

// numbered answers heads of these numbers, each of another age and sum than the one ahead.
func numbered(seqs ...int) []api.Head {
	var out []api.Head
	for i, s := range seqs {
		out = append(out, api.Head{Age: 7 * i % 60, Kind: api.Router, Id: 2, Adv: 2, Seq: s, Sum: 500 - i, Long: 24})
	}
	return out
}

// check holds Newer of two heads against what is wanted, both ways about.
func check(t *testing.T, name string, a, b api.Head, want int) {
	t.Helper()
	if got := Newer(a, b); got != want {
		t.Errorf("%s: Newer(%v, %v) = %d, want %d", name, a, b, got, want)
	}
	if got := Newer(b, a); got != -want {
		t.Errorf("%s, the other way about: Newer(%v, %v) = %d, want %d", name, b, a, got, -want)
	}
}

// P6.1, P6.2: the greater Seq is newer, whatever the sums and ages.
func TestGreaterSeq(t *testing.T) {
	seqs := []int{math.MinInt64, api.FirstSeq - 1, api.FirstSeq, -7, -1, 0, 1, 2, 1000, api.LastSeq, api.LastSeq + 1, math.MaxInt64}
	sums := []int{math.MinInt64, 0, 5, 65535, math.MaxInt64}
	ages := []int{math.MinInt64, 0, 6, 7, 59, 60, 61, math.MaxInt64}
	for i, more := range seqs {
		for _, less := range seqs[:i] {
			for _, s := range sums {
				for _, r := range sums {
					for _, a := range ages {
						for _, b := range ages {
							check(t, "another Seq", api.Head{Seq: more, Sum: s, Age: a}, api.Head{Seq: less, Sum: r, Age: b}, 1)
						}
					}
				}
			}
		}
	}
	check(t, "the chapter's example", api.Head{Seq: 2, Age: 59}, api.Head{Seq: 1}, 1)
	check(t, "the chapter's example", api.Head{Seq: 2}, api.Head{Seq: 1, Age: 60}, 1)
}

// P6.1, P6.2: of one Seq the greater Sum is newer, whatever the ages.
func TestGreaterSum(t *testing.T) {
	sums := []int{math.MinInt64, -2, -1, 0, 1, 258, 65534, 65535, 65536, math.MaxInt64}
	ages := []int{math.MinInt64, -1, 0, 6, 7, 59, 60, 61, math.MaxInt64}
	for _, seq := range []int{math.MinInt64, api.FirstSeq, -1, 0, 9, api.LastSeq, math.MaxInt64} {
		for i, more := range sums {
			for _, less := range sums[:i] {
				for _, a := range ages {
					for _, b := range ages {
						check(t, "another Sum", api.Head{Seq: seq, Sum: more, Age: a}, api.Head{Seq: seq, Sum: less, Age: b}, 1)
					}
				}
			}
		}
	}
}

// P6.1, P6.2: of one Seq and one Sum the ages tell.
func TestAges(t *testing.T) {
	for _, c := range []struct{ a, b, want int }{
		// An age of 60 on one side, near the other one and far from it.
		{60, 0, 1}, {60, 1, 1}, {60, 53, 1}, {60, 54, 1}, {60, 59, 1}, {60, 61, 1}, {60, 66, 1}, {60, 67, 1},
		{60, -1, 1}, {60, math.MinInt64, 1}, {60, math.MaxInt64, 1},
		// On both.
		{60, 60, 0},
		// Ages that are the same, or up to 6 apart.
		{0, 0, 0}, {1, 1, 0}, {59, 59, 0}, {0, 1, 0}, {0, 5, 0}, {0, 6, 0}, {1, 7, 0}, {10, 16, 0}, {53, 59, 0},
		// 7 apart, and more: the younger one.
		{0, 7, 1}, {1, 8, 1}, {10, 17, 1}, {52, 59, 1}, {0, 59, 1}, {8, 50, 1},
		// Below 0, and beyond 60.
		{-3, 3, 0}, {-3, 4, 1}, {-9, -3, 0}, {-9, -2, 1}, {-60, -60, 0}, {-60, 0, 1}, {-60, -54, 0}, {-60, -53, 1},
		{59, 65, 0}, {59, 66, 1}, {61, 67, 0}, {61, 68, 1}, {61, 61, 0},
		// At both ends of all numbers.
		{math.MinInt64, math.MaxInt64, 1}, {math.MinInt64, 0, 1}, {0, math.MaxInt64, 1}, {-1, math.MaxInt64, 1},
		{math.MinInt64, math.MinInt64, 0}, {math.MinInt64, math.MinInt64 + 6, 0}, {math.MinInt64, math.MinInt64 + 7, 1},
		{math.MaxInt64, math.MaxInt64, 0}, {math.MaxInt64 - 6, math.MaxInt64, 0}, {math.MaxInt64 - 7, math.MaxInt64, 1},
	} {
		h := aged(c.a, c.b)
		check(t, "ages", h[0], h[1], c.want)
		h[0].Seq, h[1].Seq, h[0].Sum, h[1].Sum = -5, -5, 0, 0
		check(t, "ages of a Seq below 0", h[0], h[1], c.want)
		check(t, "ages of heads without anything else", api.Head{Age: c.a}, api.Head{Age: c.b}, c.want)
	}
}

// P6.1, P6.2: every two ages that a right description may have, against the chapter's words told another way.
func TestAllAges(t *testing.T) {
	h := aged(make([]int, 61)...)
	for a := range h {
		h[a].Age = a
	}
	for a := range h {
		for b := range h {
			want := 0
			if a != b && (a == 60 || b != 60 && a+6 < b) {
				want = 1
			}
			if a != b && (b == 60 || a != 60 && b+6 < a) {
				want = -1
			}
			check(t, "all ages", h[a], h[b], want)
		}
	}
}

// P6.1: keys, and how many bytes there are, aren't asked.
func TestKeysAreNotAsked(t *testing.T) {
	unlike := []api.Head{
		{Kind: api.Router, Id: 1, Adv: 1, Long: 24},
		{Kind: api.Network, Id: 1, Adv: 1, Long: 24},
		{Kind: api.Router, Id: 63, Adv: 1, Long: 24},
		{Kind: api.Router, Id: 1, Adv: 15, Long: 24},
		{Kind: api.Router, Id: 1, Adv: 1, Long: 72},
		{Kind: math.MaxInt64, Id: math.MinInt64, Adv: math.MinInt64, Long: math.MaxInt64},
		{Kind: -1, Id: -1, Adv: -1, Long: -1},
		{},
	}
	for _, k := range unlike {
		for _, m := range unlike {
			as := func(k api.Head, seq, sum, age int) api.Head {
				k.Seq, k.Sum, k.Age = seq, sum, age
				return k
			}
			check(t, "the same", as(k, 3, 4, 5), as(m, 3, 4, 5), 0)
			check(t, "the same, 6 apart", as(k, 3, 4, 5), as(m, 3, 4, 11), 0)
			check(t, "7 apart", as(k, 3, 4, 5), as(m, 3, 4, 12), 1)
			check(t, "an age of 60", as(k, 3, 4, 60), as(m, 3, 4, 59), 1)
			check(t, "ages of 60", as(k, 3, 4, 60), as(m, 3, 4, 60), 0)
			check(t, "another Sum", as(k, 3, 5, 40), as(m, 3, 4, 1), 1)
			check(t, "another Seq", as(k, 4, 1, 40), as(m, 3, 4, 60), 1)
		}
	}
}

// P6.2: of any two of many heads the answer is 1, 0 or -1, and the other way about what it is below 0; a head is the same as itself.
func TestTheOtherWayAbout(t *testing.T) {
	numbers := []int{math.MinInt64, math.MinInt64 + 7, -1, 0, 3, 6, 7, 54, 60, 61, math.MaxInt64 - 7, math.MaxInt64}
	var heads []api.Head
	for _, age := range numbers {
		for _, seq := range []int{math.MinInt64, -1, 0, math.MaxInt64} {
			for _, sum := range []int{math.MinInt64, -1, 0, math.MaxInt64} {
				heads = append(heads, api.Head{Age: age, Seq: seq, Sum: sum})
			}
		}
	}
	for _, a := range heads {
		check(t, "itself", a, a, 0)
		for _, b := range heads {
			n := Newer(a, b)
			if n < -1 || n > 1 {
				t.Errorf("Newer(%v, %v) = %d", a, b, n)
			}
			if m := Newer(b, a); m != -n {
				t.Errorf("Newer(%v, %v) = %d, but %d the other way about", a, b, n, m)
			}
		}
	}
}

// P6.1: Best of none and of one, whatever it is.
func TestBestOfFew(t *testing.T) {
	for i, got := range []int{Best(), Best(nil...), Best([]api.Head{}...), Best(make([]api.Head, 0, 4)...)} {
		if got != -1 {
			t.Errorf("%d: Best of none = %d", i, got)
		}
	}
	for _, h := range append(aged(0, 60, -5, 61, math.MinInt64, math.MaxInt64), numbered(math.MinInt64, api.FirstSeq, -1, 0, 5, math.MaxInt64)...) {
		if got := Best(h); got != 0 {
			t.Errorf("Best(%v) = %d", h, got)
		}
	}
	if got := Best(api.Head{}); got != 0 {
		t.Errorf("Best of an empty one = %d", got)
	}
}

// P6.1: Best of several.
func TestBest(t *testing.T) {
	for _, c := range []struct {
		name  string
		heads []api.Head
		want  int
	}{
		{"the first one is newest", numbered(9, 1, 4, 2), 0},
		{"one in the middle is newest", numbered(1, 2, 9, 4), 2},
		{"the last one is newest", numbered(3, 1, 2, 9), 3},
		{"the last one of two", numbered(1, 2), 1},
		{"the first one of two", numbered(2, 1), 0},
		{"numbers below 0", numbered(-9, -3, api.FirstSeq, -4), 1},
		{"all the same", aged(5, 5, 5), 0},
		{"all the same, of several ages", aged(5, 8, 2, 5), 0},
		{"several newest ones, all the same", []api.Head{{Seq: 1}, {Seq: 3}, {Seq: 3}, {Seq: 2}, {Seq: 3}}, 1},
		{"the first one is the same as the last, and newest", []api.Head{{Seq: 3}, {Seq: 1}, {Seq: 3}}, 0},
		{"an age of 60 in the middle", aged(0, 60, 1, 60), 1},
		{"an age of 60 at the end", aged(0, 1, 59, 60), 3},
		{"an age of 60 ahead of a greater Seq", []api.Head{{Age: 60, Seq: 1}, {Seq: 2}}, 1},
		{"the greatest Sum", []api.Head{{Sum: 4}, {Sum: 9, Age: 40}, {Sum: 8}}, 1},
		// Each is newer than the one ahead.
		{"numbers that rise", numbered(1, 2, 3, 4), 3},
		{"ages that fall by 7", aged(28, 21, 14, 7, 0), 4},
		// Each is newer than the one ahead, but not than the one that was found.
		{"the newest one, and then rising ones", numbered(9, 1, 2, 3, 4), 0},
		{"rising ones, and rising ones again", numbered(1, 5, 2, 3, 4), 1},
		{"the youngest one, and then ages that fall", aged(0, 40, 30, 20, 10), 0},
		{"an age of 60, and then ages that fall", aged(60, 40, 30, 20, 10), 0},
		// None is newer than the one ahead, but one is than the one that was found.
		{"ages that fall by 6", aged(12, 6, 0), 2},
		{"ages that fall by 6, four of them", aged(18, 12, 6, 0), 2},
		{"ages that fall by 4", aged(20, 16, 12, 8, 4, 0), 4},
		{"numbers that fall", numbered(5, 4, 3, 2), 0},
		// Each is newer than the first, but not than the one that was found.
		{"the same as the one that was found", aged(50, 20, 14, 26), 1},
		{"newer than the first alone", numbered(1, 9, 5, 8), 1},
	} {
		if got := Best(c.heads...); got != c.want {
			t.Errorf("%s: Best = %d, want %d", c.name, got, c.want)
		}
	}
}

// P6.1: whatever place the newest one has among many, Best finds it.
func TestBestAtEachPlace(t *testing.T) {
	for many := 1; many <= 40; many++ {
		for at := range many {
			seqs := make([]int, many)
			for i := range seqs {
				seqs[i] = i % 5
			}
			seqs[at] = 5
			if got := Best(numbered(seqs...)...); got != at {
				t.Errorf("%d heads: Best = %d, want %d", many, got, at)
			}
		}
	}
	if got := Best(make([]api.Head, 100000)...); got != 0 {
		t.Errorf("many that are the same: Best = %d", got)
	}
}

// P6.1: of every four of some heads Best is one than which none behind it is newer; one ahead of it that isn't older isn't passed by.
func TestBestOfAny(t *testing.T) {
	pool := append(aged(0, 6, 7, 13, 60), api.Head{Seq: 5}, api.Head{Seq: 4, Sum: 701, Age: 59}, api.Head{Seq: -1, Sum: 900})
	places := len(pool)
	for n := range places * places * places * places {
		l := []api.Head{pool[n%places], pool[n/places%places], pool[n/places/places%places], pool[n/places/places/places]}
		best := Best(l...)
		if best < 0 || best >= len(l) {
			t.Fatalf("Best(%v) = %d", l, best)
		}
		for i, h := range l {
			if Newer(h, l[best]) > 0 {
				t.Errorf("Best(%v) = %d, but %d is newer", l, best, i)
			}
		}
		// Held one by one: the one that was found stays, unless a newer one comes.
		found := 0
		for i := 1; i < len(l); i++ {
			if Newer(l[i], l[found]) == 1 {
				found = i
			}
		}
		if best != found {
			t.Errorf("Best(%v) = %d, want %d", l, best, found)
		}
	}
}

// P6.1: the chapter's constant.
func TestAgeDiff(t *testing.T) {
	if AgeDiff != 6 {
		t.Errorf("AgeDiff = %d", AgeDiff)
	}
}

// R4: the list of heads, its spare room included, stays as it was.
func TestKeepsItsHandsOff(t *testing.T) {
	mark := api.Head{Age: 60, Kind: 9, Id: 9, Adv: 9, Seq: math.MaxInt64, Sum: 9, Long: 9}
	for _, heads := range [][]api.Head{nil, numbered(1), numbered(9, 1, 2), numbered(1, 9, 2), numbered(1, 2, 9), aged(18, 12, 6, 0), aged(3, 60, 5, 60)} {
		list, whole := probe.Roomy(heads, 5, mark)
		was := slices.Clone(whole)
		got := Best(list...)
		if !slices.Equal(whole, was) {
			t.Errorf("Best changed what was handed in: %v, was %v", whole, was)
		}
		// What stands in the spare room is newer than all, but isn't handed in.
		if got >= len(heads) {
			t.Errorf("Best(%v) = %d", heads, got)
		}
	}
}

// R5: the same is answered again, whatever was asked in between.
func TestSameAgain(t *testing.T) {
	l := numbered(1, 9, 2)
	h := aged(3, 60)
	for range 3 {
		if got := Best(l...); got != 1 {
			t.Errorf("Best = %d", got)
		}
		check(t, "again", h[1], h[0], 1)
		Best()
		Best(h...)
		Newer(l[0], l[1])
	}
}
