package elect

import (
	"cmp"
	"math"
	"slices"
	"testing"

	"syndic/api"
	"syndic/probe"
)

// cand answers a candidate: its number, its priority, and whom it takes for the designated router, and the backup.
func cand(id, prio, dr, bdr int) api.Cand {
	return api.Cand{Id: id, Prio: prio, Dr: dr, Bdr: bdr}
}

// fresh answers candidates that know of none, numbered from 1 on, of these priorities.
func fresh(prios ...int) []api.Cand {
	var out []api.Cand
	for i, p := range prios {
		out = append(out, cand(1+i, p, 0, 0))
	}
	return out
}

// list answers the candidates that are handed over.
func list(l ...api.Cand) []api.Cand { return l }

// group is candidates, and whom one go tells of them.
type group struct {
	name    string
	l       []api.Cand
	dr, bdr int
}

// goes holds one go over each group, in all orders.
func goes(t *testing.T, groups ...group) {
	t.Helper()
	for _, g := range groups {
		probe.Turns(g.l, func(l []api.Cand) {
			if dr, bdr := Go(l...); dr != g.dr || bdr != g.bdr {
				t.Errorf("%s: Go(%v) = %d, %d, want %d, %d", g.name, l, dr, bdr, g.dr, g.bdr)
			}
		})
	}
}

// elects holds the election by one over candidates, in all orders.
func elects(t *testing.T, name string, self int, l []api.Cand, dr, bdr int) {
	t.Helper()
	probe.Turns(l, func(l []api.Cand) {
		if d, b := Elect(self, l...); d != dr || b != bdr {
			t.Errorf("%s: Elect(%d, %v) = %d, %d, want %d, %d", name, self, l, d, b, dr, bdr)
		}
	})
}

// stable holds Stable of candidates, in all orders.
func stable(t *testing.T, name string, want bool, l ...api.Cand) {
	t.Helper()
	probe.Turns(l, func(l []api.Cand) {
		if got := Stable(l...); got != want {
			t.Errorf("%s: Stable(%v) = %v", name, l, got)
		}
	})
}

// P9.1: of no candidates nobody is told, by whomever, and they are stable.
func TestNoCandidates(t *testing.T) {
	for _, l := range [][]api.Cand{nil, {}, make([]api.Cand, 0, 3), fresh(1, 2)[:0]} {
		if dr, bdr := Go(l...); dr != 0 || bdr != 0 {
			t.Errorf("Go of none = %d, %d", dr, bdr)
		}
		for _, self := range []int{math.MinInt64, -1, 0, 1, 2, 15, math.MaxInt64} {
			elects(t, "none", self, l, 0, 0)
		}
		stable(t, "none", true, l...)
	}
	if dr, bdr := Go(); dr != 0 || bdr != 0 {
		t.Errorf("Go() = %d, %d", dr, bdr)
	}
	if dr, bdr := Elect(1); dr != 0 || bdr != 0 {
		t.Errorf("Elect(1) = %d, %d", dr, bdr)
	}
	if !Stable() {
		t.Error("Stable() = false")
	}
}

// P9.1, P9.2: one go of one candidate, whomever it takes for what.
func TestGoOfOne(t *testing.T) {
	goes(t,
		group{"it knows of none", list(cand(5, 1, 0, 0)), 5, 5},
		group{"it takes itself for the designated router", list(cand(5, 1, 5, 0)), 5, 0},
		group{"it takes itself for the backup", list(cand(5, 1, 0, 5)), 5, 5},
		group{"it takes itself for both", list(cand(5, 1, 5, 5)), 5, 0},
		group{"it takes another one for the designated router", list(cand(5, 1, 3, 0)), 5, 5},
		group{"it takes another one for the backup", list(cand(5, 1, 0, 7)), 5, 5},
		group{"it takes others for both", list(cand(5, 1, 3, 7)), 5, 5},
		group{"it takes itself, and another one for the backup", list(cand(5, 1, 5, 7)), 5, 0},
		group{"it takes itself for the backup, and another one", list(cand(5, 1, 7, 5)), 5, 5},
	)
	for _, id := range []int{1, 2, 15, 16, 255, 1 << 40, math.MaxInt64} {
		for _, prio := range []int{1, 2, 255, 256, 1 << 40, math.MaxInt64} {
			goes(t,
				group{"one", list(cand(id, prio, 0, 0)), id, id},
				group{"one that is designated", list(cand(id, prio, id, 0)), id, 0},
			)
			elects(t, "one", id, list(cand(id, prio, 0, 0)), id, 0)
		}
	}
}

// P9.1: of candidates that know of none the best one is both: the greatest priority, of one priority the greatest number.
func TestGoOfFresh(t *testing.T) {
	goes(t,
		group{"two of one priority", fresh(1, 1), 2, 2},
		group{"two, the lesser number has the greater priority", fresh(2, 1), 1, 1},
		group{"two, the greater number has the greater priority", fresh(1, 2), 2, 2},
		group{"several of one priority", fresh(7, 7, 7, 7, 7), 5, 5},
		group{"the greatest priority first", fresh(9, 1, 8, 2), 1, 1},
		group{"the greatest priority between", fresh(3, 4, 9, 8), 3, 3},
		group{"two of the greatest priority", fresh(9, 1, 9, 8), 3, 3},
		group{"two of the greatest priority, one of them the last", fresh(9, 1, 8, 9), 4, 4},
		group{"far apart", list(cand(1, 256, 0, 0), cand(math.MaxInt64, 255, 0, 0), cand(300, 1, 0, 0)), 1, 1},
		group{"at the end", list(cand(1, math.MaxInt64, 0, 0), cand(2, math.MaxInt64, 0, 0), cand(3, 1, 0, 0)), 2, 2},
		group{"numbers at the end", list(cand(math.MaxInt64, 1, 0, 0), cand(math.MaxInt64-1, 1, 0, 0), cand(1, 1, 0, 0)), math.MaxInt64, math.MaxInt64},
	)
}

// P9.1, P9.2: who has no priority above 0 is never told, whatever it takes itself for.
func TestGoOfUnelectable(t *testing.T) {
	for _, prio := range []int{0, -1, -255, math.MinInt64} {
		for _, says := range [][2]int{{0, 0}, {9, 0}, {0, 9}, {9, 9}, {9, 1}, {1, 9}, {2, 1}} {
			no := cand(9, prio, says[0], says[1])
			goes(t,
				group{"alone", list(no), 0, 0},
				group{"two of them", list(no, cand(8, prio, 8, 8)), 0, 0},
				group{"beside one", list(no, cand(1, 1, 0, 0)), 1, 1},
				group{"beside one that is designated", list(no, cand(1, 1, 1, 0)), 1, 0},
				group{"beside two", list(no, cand(1, 1, 0, 0), cand(2, 1, 0, 0)), 2, 2},
				group{"beside two that are elected", list(no, cand(1, 1, 1, 2), cand(2, 1, 1, 2)), 1, 2},
				group{"beside a backup", list(no, cand(1, 1, 0, 1), cand(2, 2, 0, 0)), 1, 1},
			)
			for _, self := range []int{9, 7} {
				elects(t, "alone", self, list(no), 0, 0)
				elects(t, "beside one", self, list(no, cand(1, 1, 0, 0)), 1, 1)
				elects(t, "beside two that are elected", self, list(no, cand(1, 1, 1, 2), cand(2, 1, 1, 2)), 1, 2)
			}
			elects(t, "by the other one", 1, list(no, cand(1, 1, 0, 0)), 1, 0)
			elects(t, "by the better one of two others", 2, list(no, cand(1, 1, 0, 0), cand(2, 1, 0, 0)), 2, 1)
		}
	}
}

// P9.1: who takes itself for the designated router is it, the best one of several; none of them is the backup.
func TestGoOfDesignated(t *testing.T) {
	goes(t,
		group{"one, beside a better one", list(cand(1, 1, 1, 0), cand(2, 9, 0, 0)), 1, 2},
		group{"one, beside two others", list(cand(1, 1, 1, 0), cand(2, 1, 0, 0), cand(3, 1, 0, 0)), 1, 3},
		group{"one, beside two of unlike priority", list(cand(1, 1, 1, 0), cand(2, 7, 1, 0), cand(3, 6, 1, 0)), 1, 2},
		group{"two of one priority", list(cand(1, 1, 1, 0), cand(2, 1, 2, 0)), 2, 0},
		group{"two of one priority, and another one", list(cand(1, 5, 1, 0), cand(2, 5, 2, 0), cand(3, 1, 0, 0)), 2, 3},
		group{"two of unlike priority", list(cand(1, 3, 1, 0), cand(2, 2, 2, 0)), 1, 0},
		group{"two of unlike priority, and another one", list(cand(1, 3, 1, 0), cand(2, 2, 2, 0), cand(3, 1, 0, 0)), 1, 3},
		group{"three, and a better one", list(cand(4, 2, 4, 0), cand(5, 3, 5, 0), cand(6, 3, 6, 0), cand(7, 9, 0, 0)), 6, 7},
		group{"all that may be elected", list(cand(1, 1, 1, 0), cand(2, 1, 2, 2), cand(3, 4, 3, 0), cand(4, 0, 0, 4)), 3, 0},
	)
}

// P9.1: who takes itself for the backup is it, the best one of several; with nobody that takes itself for the designated router it is both.
func TestGoOfBackups(t *testing.T) {
	goes(t,
		group{"one, beside a better one", list(cand(1, 1, 0, 1), cand(2, 9, 0, 0)), 1, 1},
		group{"two of one priority", list(cand(1, 1, 0, 1), cand(2, 1, 0, 2), cand(3, 9, 0, 0)), 2, 2},
		group{"two of unlike priority", list(cand(1, 3, 0, 1), cand(2, 1, 0, 2), cand(3, 9, 0, 0)), 1, 1},
		group{"one, and a designated router", list(cand(1, 1, 0, 1), cand(2, 9, 0, 0), cand(3, 1, 3, 0)), 3, 1},
		group{"three, and a designated router", list(cand(1, 2, 0, 1), cand(2, 2, 0, 2), cand(3, 1, 3, 0), cand(4, 1, 0, 4)), 3, 2},
		group{"one that takes itself for both", list(cand(1, 9, 1, 1), cand(2, 1, 0, 0)), 1, 2},
		group{"one that takes itself for both, and a backup", list(cand(1, 9, 1, 1), cand(2, 1, 0, 2), cand(3, 9, 0, 0)), 1, 2},
		group{"two that take themselves for both", list(cand(1, 9, 1, 1), cand(2, 9, 2, 2), cand(3, 1, 0, 0)), 2, 3},
		group{"two that take themselves for both, alone", list(cand(1, 9, 1, 1), cand(2, 8, 2, 2)), 1, 0},
		group{"a lesser one that takes itself for both, and a better one", list(cand(1, 1, 1, 1), cand(2, 9, 2, 0), cand(3, 1, 0, 0)), 2, 3},
	)
}

// P9.1: whom a candidate takes for these beside itself bears on nothing in one go.
func TestGoOfOthers(t *testing.T) {
	goes(t,
		group{"each takes the other one", list(cand(1, 1, 2, 0), cand(2, 1, 0, 1)), 2, 2},
		group{"each takes the other one for both", list(cand(1, 1, 2, 2), cand(2, 1, 1, 1)), 2, 2},
		group{"all take the least one", list(cand(1, 1, 0, 0), cand(2, 1, 1, 1), cand(3, 1, 1, 1)), 3, 3},
		group{"all take one that is none of them", list(cand(1, 1, 7, 8), cand(2, 1, 8, 7)), 2, 2},
		group{"all take one that may not be elected", list(cand(1, 1, 3, 0), cand(2, 1, 3, 3), cand(3, 0, 3, 3)), 2, 2},
		group{"a designated router that is gone", list(cand(2, 1, 1, 2), cand(3, 1, 1, 2), cand(4, 9, 1, 2)), 2, 2},
		group{"a backup that is gone", list(cand(2, 1, 2, 1), cand(3, 1, 2, 1), cand(4, 9, 2, 1)), 2, 4},
		group{"both are gone", list(cand(2, 1, 7, 8), cand(3, 1, 7, 8), cand(4, 9, 7, 8)), 4, 4},
		group{"numbers below 0", list(cand(1, 1, -1, -2), cand(2, 1, -2, math.MinInt64)), 2, 2},
		group{"the other two swap", list(cand(1, 1, 2, 3), cand(2, 1, 3, 1), cand(3, 1, 1, 2)), 3, 3},
	)
}

// P9.1: a router that becomes designated, or the backup, takes itself for that, and there is one more go.
func TestElectOfOneThatBecomes(t *testing.T) {
	elects(t, "the chapter's example", 2, fresh(1, 1), 2, 1)
	elects(t, "alone", 1, fresh(1), 1, 0)
	elects(t, "beside one that may not be elected", 1, fresh(1, 0), 1, 0)
	elects(t, "the best one of several", 1, fresh(9, 2, 3, 1), 1, 3)
	elects(t, "the best one, by number", 4, fresh(3, 3, 3, 3), 4, 3)
	elects(t, "it becomes the backup", 2, list(cand(1, 1, 1, 0), cand(2, 1, 1, 0), cand(3, 0, 1, 0)), 1, 2)
	elects(t, "it becomes the backup of several", 3, list(cand(1, 1, 1, 0), cand(2, 1, 1, 0), cand(3, 1, 1, 0)), 1, 3)
	elects(t, "the backup becomes designated", 2, list(cand(2, 1, 1, 2), cand(3, 1, 1, 2), cand(4, 0, 1, 2)), 2, 3)
	elects(t, "the backup becomes designated, though a better one is there", 2, list(cand(2, 1, 1, 2), cand(3, 1, 1, 2), cand(4, 9, 1, 2)), 2, 4)
	elects(t, "the backup becomes designated, alone", 2, list(cand(2, 1, 1, 2)), 2, 0)
	elects(t, "the best one of two backups becomes designated", 3, list(cand(2, 1, 0, 2), cand(3, 1, 0, 3), cand(4, 9, 0, 0)), 3, 2)
}

// P9.1: a router that took itself for something, and isn't, takes itself for what it is, and there is one more go.
func TestElectOfOneThatIsNot(t *testing.T) {
	two := list(cand(2, 1, 2, 0), cand(3, 1, 3, 0))
	elects(t, "two take themselves for it, by the lesser one", 2, two, 3, 2)
	elects(t, "two take themselves for it, by the better one", 3, two, 3, 0)
	elects(t, "two take themselves for it, by another one", 4, two, 3, 0)
	elects(t, "the lesser one of unlike priority", 3, list(cand(2, 7, 2, 0), cand(3, 1, 3, 0)), 2, 3)
	elects(t, "it isn't the best other one", 2, list(cand(2, 1, 2, 0), cand(3, 1, 3, 0), cand(4, 1, 0, 0)), 3, 4)
	elects(t, "now it is the best other one", 4, list(cand(2, 1, 0, 0), cand(5, 1, 5, 0), cand(4, 1, 4, 0)), 5, 4)
	elects(t, "it is ahead of the others only then", 4, list(cand(2, 1, 0, 0), cand(5, 2, 5, 0), cand(4, 1, 4, 0)), 5, 4)
	elects(t, "it took itself for both", 2, list(cand(2, 1, 2, 2), cand(3, 1, 3, 0)), 3, 2)
	elects(t, "it took itself for both, beside a better one", 2, list(cand(2, 1, 2, 2), cand(3, 1, 3, 0), cand(4, 1, 0, 0)), 3, 4)
	elects(t, "it took itself for both, beside a backup", 4, list(cand(2, 1, 0, 2), cand(3, 5, 3, 0), cand(4, 1, 4, 4)), 3, 2)
	elects(t, "it took itself for both, and is designated", 2, list(cand(2, 1, 2, 2), cand(3, 9, 0, 0)), 2, 3)
	elects(t, "it took itself for both, and is designated, alone", 2, list(cand(2, 1, 2, 2)), 2, 0)
	elects(t, "it took itself for the backup, and isn't", 1, list(cand(1, 1, 0, 1), cand(2, 1, 0, 2), cand(3, 1, 3, 0)), 3, 2)
	elects(t, "it may not be elected", 4, list(cand(4, 0, 4, 4), cand(2, 1, 0, 0), cand(3, 1, 0, 0)), 3, 3)
	elects(t, "it may not be elected, beside two that are", 4, list(cand(4, 0, 4, 0), cand(2, 1, 2, 3), cand(3, 1, 2, 3)), 2, 3)
}

// P9.1: where nothing changes for a router, or it is none of the candidates, there is one go alone.
func TestElectOfOneGo(t *testing.T) {
	settled := list(cand(1, 1, 1, 2), cand(2, 1, 1, 2), cand(3, 9, 1, 2), cand(4, 0, 1, 2))
	for self := -1; self <= 6; self++ {
		elects(t, "settled", self, settled, 1, 2)
	}
	elects(t, "not the best one of two", 1, fresh(1, 1), 2, 2)
	elects(t, "not the best one of several", 2, fresh(9, 2, 3, 1), 1, 1)
	elects(t, "not the backup that becomes designated", 3, list(cand(2, 1, 1, 2), cand(3, 1, 1, 2)), 2, 2)
	elects(t, "it is designated, and stays so", 1, list(cand(1, 1, 1, 0), cand(2, 9, 0, 0)), 1, 2)
	elects(t, "it knows of others", 1, list(cand(1, 1, 7, 8), cand(2, 1, 8, 7)), 2, 2)
	for _, self := range []int{math.MinInt64, -1, 0, 3, 7, 8, math.MaxInt64} {
		elects(t, "none of them", self, fresh(1, 1), 2, 2)
		elects(t, "none of them, taken by all", self, list(cand(1, 1, 7, 8), cand(2, 1, 7, 8)), 2, 2)
		elects(t, "none of them, beside two that take themselves for it", self, list(cand(1, 1, 1, 0), cand(2, 1, 2, 0)), 2, 0)
	}
}

// P9.1: it is by its number that self is told among the candidates, not by its place.
func TestElectAtEachPlace(t *testing.T) {
	for many := 1; many <= 20; many++ {
		for at := range many {
			l := fresh(make([]int, many)...)
			for i := range l {
				l[i] = cand(100-3*i, 4, 0, 0)
			}
			l[at].Prio = 5
			self, next := l[at].Id, 100
			if at == 0 {
				next = 97
			}
			if many == 1 {
				next = 0
			}
			if dr, bdr := Go(l...); dr != self || bdr != self {
				t.Errorf("Go(%v) = %d, %d, want %d twice", l, dr, bdr, self)
			}
			if dr, bdr := Elect(self, l...); dr != self || bdr != next {
				t.Errorf("Elect(%d, %v) = %d, %d, want %d, %d", self, l, dr, bdr, self, next)
			}
			l[at].Dr = self
			if dr, bdr := Go(l...); dr != self || bdr != next {
				t.Errorf("Go(%v) = %d, %d, want %d, %d", l, dr, bdr, self, next)
			}
		}
	}
}

// P9.1: Stable of one candidate: it takes itself for the designated router, and nobody for the backup, or may not be elected, and knows of none.
func TestStableOfOne(t *testing.T) {
	for dr := range 4 {
		for bdr := range 4 {
			stable(t, "one", dr == 2 && bdr == 0, cand(2, 1, dr, bdr))
			stable(t, "one of a great priority", dr == 2 && bdr == 0, cand(2, 255, dr, bdr))
			stable(t, "one that may not be elected", dr == 0 && bdr == 0, cand(2, 0, dr, bdr))
			stable(t, "one below that", dr == 0 && bdr == 0, cand(2, -1, dr, bdr))
		}
	}
}

// P9.1: Stable of several, all of whom take the same two, and would elect them.
func TestStableOfSeveral(t *testing.T) {
	stable(t, "two", true, cand(1, 1, 1, 2), cand(2, 1, 1, 2))
	stable(t, "two, the other way about", true, cand(1, 1, 2, 1), cand(2, 1, 2, 1))
	stable(t, "a better one came", true, cand(1, 1, 1, 2), cand(2, 1, 1, 2), cand(3, 9, 1, 2))
	stable(t, "some that may not be elected", true, cand(4, 0, 1, 2), cand(1, 1, 1, 2), cand(2, 1, 1, 2), cand(5, 0, 1, 2))
	stable(t, "one that may be elected", true, cand(1, 0, 2, 0), cand(2, 1, 2, 0), cand(3, 0, 2, 0))
	stable(t, "none that may be elected", true, cand(1, 0, 0, 0), cand(2, 0, 0, 0), cand(3, -4, 0, 0))
}

// P9.1: Stable of several of whom one takes others than the rest: it isn't, though all would elect the same two.
func TestStableOfUnlike(t *testing.T) {
	stable(t, "one knows of none", false, cand(1, 1, 1, 2), cand(2, 1, 1, 2), cand(3, 1, 0, 0))
	stable(t, "one takes another one for the designated router", false, cand(1, 1, 1, 2), cand(2, 1, 1, 2), cand(3, 1, 4, 2))
	stable(t, "one takes another one for the backup", false, cand(1, 1, 1, 2), cand(2, 1, 1, 2), cand(3, 1, 1, 4))
	stable(t, "one knows of no backup", false, cand(1, 1, 1, 2), cand(2, 1, 1, 2), cand(3, 1, 1, 0))
	stable(t, "one knows of no designated router", false, cand(1, 1, 1, 2), cand(2, 1, 1, 2), cand(3, 1, 0, 2))
	stable(t, "one takes them the other way about", false, cand(1, 1, 1, 2), cand(2, 1, 1, 2), cand(3, 1, 2, 1))
	stable(t, "the designated router knows of no backup", false, cand(1, 1, 1, 0), cand(2, 1, 1, 2), cand(3, 1, 1, 2))
	stable(t, "the backup knows of no designated router", false, cand(1, 1, 1, 2), cand(2, 1, 0, 2), cand(3, 1, 1, 2))
	stable(t, "one may not be elected, and takes itself", false, cand(1, 1, 1, 2), cand(2, 1, 1, 2), cand(3, 0, 3, 2))
	stable(t, "two that take themselves", false, cand(1, 1, 1, 0), cand(2, 1, 2, 0))
}

// P9.1: Stable of several that take the same two, by whose election another answer comes: it isn't.
func TestStableOfOtherAnswer(t *testing.T) {
	for _, says := range [][2]int{
		{0, 0}, {1, 0}, {0, 1}, {0, 2}, {1, 1}, {2, 2}, {3, 0}, {0, 3}, {3, 3}, // one is missing, or both are the same
		{1, 4}, {4, 1}, {2, 4}, {4, 4}, {4, 0}, // one may not be elected
		{7, 1}, {1, 7}, {7, 8}, {7, 0}, {7, 7}, // one is none of them
		{-1, 1}, {1, -1}, {math.MinInt64, math.MaxInt64},
	} {
		l := fresh(1, 1, 2, 0)
		for i := range l {
			l[i].Dr, l[i].Bdr = says[0], says[1]
		}
		stable(t, "four", false, l...)
		stable(t, "two", false, l[:2]...)
	}
	stable(t, "a backup is told where only one may be elected", false, cand(1, 1, 1, 2), cand(2, 0, 1, 2))
	stable(t, "a designated router is told where none may be elected", false, cand(1, 0, 1, 0), cand(2, 0, 1, 0))
}

// slowGo answers one go told another way: by the order of those that may be elected, the best one last.
func slowGo(l []api.Cand) (int, int) {
	rising := slices.SortedFunc(slices.Values(l), func(a, b api.Cand) int {
		return cmp.Or(cmp.Compare(a.Prio, b.Prio), cmp.Compare(a.Id, b.Id))
	})
	own, said, other := 0, 0, 0
	for _, c := range rising {
		switch {
		case c.Prio <= 0:
		case c.Dr == c.Id:
			own = c.Id
		case c.Bdr == c.Id:
			said, other = c.Id, c.Id
		default:
			other = c.Id
		}
	}
	return cmp.Or(own, said, other), cmp.Or(said, other)
}

// slowElect answers the election told another way: whoever is a candidate takes itself for what it is, and there is one more go.
func slowElect(self int, l []api.Cand) (int, int) {
	dr, bdr := slowGo(l)
	var again []api.Cand
	for _, c := range l {
		if c.Id == self {
			c.Dr, c.Bdr = 0, 0
			if dr == self {
				c.Dr = self
			}
			if bdr == self {
				c.Bdr = self
			}
		}
		again = append(again, c)
	}
	return slowGo(again)
}

// slowStable answers Stable told another way.
func slowStable(l []api.Cand) bool {
	ok := true
	for _, c := range l {
		dr, bdr := slowElect(c.Id, l)
		for _, o := range l {
			ok = ok && o.Dr == dr && o.Bdr == bdr
		}
	}
	return ok
}

// against holds all three calls against what they are told another way, and what P9.2 says of them.
func against(t *testing.T, l ...api.Cand) {
	t.Helper()
	dr, bdr := Go(l...)
	if d, b := slowGo(l); d != dr || b != bdr {
		t.Errorf("Go(%v) = %d, %d, want %d, %d", l, dr, bdr, d, b)
	}
	elected(t, l, dr, bdr)
	for _, c := range append(slices.Clone(l), cand(99, 1, 0, 0), cand(0, 0, 0, 0)) {
		dr, bdr := Elect(c.Id, l...)
		if d, b := slowElect(c.Id, l); d != dr || b != bdr {
			t.Errorf("Elect(%d, %v) = %d, %d, want %d, %d", c.Id, l, dr, bdr, d, b)
		}
		elected(t, l, dr, bdr)
	}
	if got, want := Stable(l...), slowStable(l); got != want {
		t.Errorf("Stable(%v) = %v", l, got)
	}
}

// elected holds that whoever is told may be elected, and that there is a designated router, if some may be.
func elected(t *testing.T, l []api.Cand, told ...int) {
	t.Helper()
	may := []int{}
	for _, c := range l {
		if c.Prio > 0 {
			may = append(may, c.Id)
		}
	}
	for _, id := range told {
		if id != 0 && !slices.Contains(may, id) {
			t.Errorf("of %v %d was told, which may not be elected", l, id)
		}
	}
	if (told[0] == 0) != (len(may) == 0) {
		t.Errorf("of %v %d is designated, of %d that may be elected", l, told[0], len(may))
	}
}

// says answers whom a candidate may take for either: none, itself, another candidate, one that is none of them.
func says(id int) []int { return []int{0, id, id%3 + 1, 9} }

// kinds answers all candidates of a number, of these priorities.
func kinds(id int, prios ...int) []api.Cand {
	var out []api.Cand
	for _, p := range prios {
		for _, dr := range says(id) {
			for _, bdr := range says(id) {
				out = append(out, cand(id, p, dr, bdr))
			}
		}
	}
	return out
}

// P9.1, P9.2: all kinds of one, two and three candidates are answered as they are told another way.
func TestAllOfThree(t *testing.T) {
	for _, a := range kinds(2, -1, 0, 1, 2) {
		against(t, a)
		for _, b := range kinds(1, 0, 1, 2) {
			against(t, a, b)
			for _, c := range kinds(3, 0, 1, 2) {
				if !t.Failed() {
					against(t, b, a, c)
				}
			}
		}
	}
}

// P9.1, P9.2: of up to fifteen candidates without a plain rule the answers are as they are told another way, whatever their order.
func TestMany(t *testing.T) {
	for seed := range 3000 {
		b := probe.Mixed(60, seed)
		var l []api.Cand
		for i := range 1 + seed%15 {
			id := 1 + (i*7+seed)%15
			to := []int{0, id, id, 1 + int(b[4*i])%15}
			l = append(l, cand(id, int(b[4*i+1])%4, to[b[4*i+2]/64], to[b[4*i+3]/64]))
		}
		against(t, l...)
		for at := range l {
			// A single one that takes itself for something among many that don't.
			quiet := slices.Clone(l)
			for i := range quiet {
				if i != at {
					quiet[i].Dr, quiet[i].Bdr = 0, 0
				}
			}
			against(t, quiet...)
		}
	}
}

// P9.1: where each in turn takes what its election tells, all come to be stable, and stay so.
func TestItSettles(t *testing.T) {
	for seed := range 2000 {
		b := probe.Mixed(60, seed)
		var l []api.Cand
		for i := range 1 + seed%8 {
			l = append(l, cand(1+i, int(b[4*i])%3, int(b[4*i+1])%9, int(b[4*i+2])%9))
		}
		for range 5 {
			for i, c := range l {
				l[i].Dr, l[i].Bdr = Elect(c.Id, l...)
			}
		}
		if !Stable(l...) {
			t.Errorf("seed %d: not stable: %v", seed, l)
		}
		against(t, l...)
	}
}

// R1: candidates that aren't as told (numbers below 1, and twice) end, and are answered the same again.
func TestWrongCandidates(t *testing.T) {
	ids := []int{math.MinInt64, -3, -1, 0, 1, 1, 2, math.MaxInt64}
	for seed := range 400 {
		b := probe.Mixed(24, seed)
		var l []api.Cand
		for i := range seed % 7 {
			id := ids[b[3*i]/32]
			l = append(l, cand(id, int(b[3*i+1])%4-1, ids[b[3*i+2]/32], id))
		}
		known := append(slices.Clone(ids), 99, -99)
		was := slices.Clone(l)
		dr, bdr := Go(l...)
		ok := Stable(l...)
		for _, self := range known {
			d, e := Elect(self, l...)
			if x, y := Elect(self, l...); d != x || e != y {
				t.Errorf("Elect(%d, %v) = %d, %d, and then %d, %d", self, l, d, e, x, y)
			}
			if !slices.Contains(known, d) || !slices.Contains(known, e) {
				t.Errorf("Elect(%d, %v) = %d, %d", self, l, d, e)
			}
		}
		if d, e := Go(l...); d != dr || e != bdr || Stable(l...) != ok {
			t.Errorf("%v is answered otherwise again", l)
		}
		if !slices.Equal(l, was) {
			t.Errorf("%v, was %v", l, was)
		}
	}
}

// R4: the candidates that are handed over stay as they are, spare room included, and what stands there isn't asked.
func TestKeepsItsHandsOff(t *testing.T) {
	for _, mark := range []api.Cand{cand(50, 99, 50, 50), cand(50, 99, 0, 50), cand(50, 99, 0, 0), cand(1, 99, 1, 1), cand(2, 0, 0, 0)} {
		for _, l := range [][]api.Cand{
			nil, fresh(1), fresh(1, 1), fresh(9, 0, 1), fresh(0, 0),
			list(cand(1, 1, 1, 2), cand(2, 1, 1, 2)), list(cand(2, 1, 2, 0), cand(3, 1, 3, 0)),
			list(cand(2, 1, 1, 2), cand(3, 1, 1, 2), cand(4, 0, 1, 2)), list(cand(1, 1, 1, 1), cand(2, 1, 2, 2)),
		} {
			spare, whole := probe.Roomy(l, 4, mark)
			was := slices.Clone(whole)
			dr, bdr := Go(spare...)
			ok := Stable(spare...)
			for self := range 6 {
				d, b := Elect(self, spare...)
				if x, y := slowElect(self, l); d != x || b != y {
					t.Errorf("Elect(%d, %v) = %d, %d, want %d, %d", self, l, d, b, x, y)
				}
			}
			if x, y := slowGo(l); dr != x || bdr != y || ok != slowStable(l) {
				t.Errorf("of %v: %d, %d, %v", l, dr, bdr, ok)
			}
			if !slices.Equal(whole, was) {
				t.Errorf("what was handed over changed: %v, was %v", whole, was)
			}
		}
	}
}

// R5: the same candidates are answered the same, whatever was called ahead.
func TestSameAgain(t *testing.T) {
	first, second := fresh(1, 1), list(cand(2, 1, 2, 0), cand(3, 1, 3, 0))
	for range 3 {
		goes(t, group{"again", first, 2, 2}, group{"again", second, 3, 0})
		elects(t, "again", 2, first, 2, 1)
		elects(t, "again", 1, first, 2, 2)
		elects(t, "again", 2, second, 3, 2)
		elects(t, "again", 3, second, 3, 0)
		stable(t, "again", false, first...)
		stable(t, "again", true, cand(1, 1, 1, 2), cand(2, 1, 1, 2))
		stable(t, "again", false, second...)
		stable(t, "again", true)
	}
}
