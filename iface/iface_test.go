package iface

import (
	"math"
	"slices"
	"testing"

	"syndic/api"
	"syndic/elect"
	"syndic/probe"
)

// port answers an interface: whose it is, its priority, its state, and whom it takes for the designated router, and the backup.
func port(self, prio, state, dr, bdr int) api.Iface {
	return api.Iface{Self: self, Prio: prio, State: state, Dr: dr, Bdr: bdr}
}

// cand answers a candidate: its number, its priority, and whom it takes for the designated router, and the backup.
func cand(id, prio, dr, bdr int) api.Cand {
	return api.Cand{Id: id, Prio: prio, Dr: dr, Bdr: bdr}
}

// list answers the candidates that are handed over.
func list(l ...api.Cand) []api.Cand { return l }

// states answers the states that the chapter knows, and others, at the ends of what a state can be among them.
func states() []int {
	return []int{api.IDown, api.IWaiting, api.IOther, api.IBackup, api.IDr, -1, 5, 6, 255, 256, math.MinInt64, math.MaxInt64}
}

// events answers the events that the chapter knows, and others.
func events() []int {
	return []int{api.EUp, api.EDown, api.EWait, api.ESeen, api.EChange, -1, 5, 6, 255, 256, math.MinInt64, math.MaxInt64}
}

// elections answers by which events, and out of which states, elections are.
func elections() [][2]int {
	return [][2]int{
		{api.IWaiting, api.EWait}, {api.IWaiting, api.ESeen},
		{api.IOther, api.EChange}, {api.IBackup, api.EChange}, {api.IDr, api.EChange},
	}
}

// taken answers pairs of whom 2 may take for both: none, itself, others, numbers that are nobody's.
func taken() [][2]int {
	return [][2]int{{0, 0}, {2, 0}, {0, 2}, {2, 2}, {1, 2}, {2, 1}, {1, 3}, {9, 0}, {0, 9}, {-1, math.MaxInt64}}
}

// steps holds a step, and that it tells another one just if it is.
func steps(t *testing.T, name string, i api.Iface, event int, others []api.Cand, want api.Iface) {
	t.Helper()
	got, is := Step(i, event, others...)
	if got != want || is != (want != i) {
		t.Errorf("%s: Step(%v, %d, %v) = %v, %v, want %v, %v", name, i, event, others, got, is, want, want != i)
	}
}

// P10.1: every state by every event, by a table: what isn't in it moves nothing.
func TestEveryStateByEveryEvent(t *testing.T) {
	others := list(cand(3, 9, 3, 0), cand(4, 9, 3, 0))
	for _, state := range states() {
		for _, event := range events() {
			i := port(2, 1, state, 7, 8)
			want := i
			switch [2]int{state, event} {
			case [2]int{0, 0}: // up
				want = port(2, 1, 1, 0, 0)
			case [2]int{0, 1}, [2]int{1, 1}, [2]int{2, 1}, [2]int{3, 1}, [2]int{4, 1}: // down
				want = port(2, 1, 0, 0, 0)
			case [2]int{1, 2}, [2]int{1, 3}, [2]int{2, 4}, [2]int{3, 4}, [2]int{4, 4}: // an election
				want = port(2, 1, 2, 3, 4)
			}
			if state < 0 || state > 4 {
				if event == 1 { // out of any state
					want = port(2, 1, 0, 0, 0)
				}
			}
			steps(t, "the table", i, event, others, want)
		}
	}
}

// P10.1: up out of IDown: above priority 0 it waits, else it is neither; nobody is designated, or the backup, whoever was.
func TestUp(t *testing.T) {
	for _, both := range taken() {
		for _, others := range [][]api.Cand{nil, list(cand(3, 1, 3, 0)), list(cand(3, 1, 3, 1), cand(1, 1, 3, 1))} {
			for _, prio := range []int{1, 2, 100, 255, 256, math.MaxInt64} {
				steps(t, "above 0", port(2, prio, api.IDown, both[0], both[1]), api.EUp, others, port(2, prio, api.IWaiting, 0, 0))
			}
			for _, prio := range []int{0, -1, -255, math.MinInt64} {
				steps(t, "not above 0", port(2, prio, api.IDown, both[0], both[1]), api.EUp, others, port(2, prio, api.IOther, 0, 0))
			}
		}
	}
	for self := 1; self <= api.MaxId; self++ {
		steps(t, "each number", port(self, 1, api.IDown, 0, 0), api.EUp, nil, port(self, 1, api.IWaiting, 0, 0))
		steps(t, "the chapter's example", port(self, 0, api.IDown, 0, 0), api.EUp, nil, port(self, 0, api.IOther, 0, 0))
	}
}

// P10.1: up out of every other state moves nothing.
func TestUpOfOneThatIsUp(t *testing.T) {
	for _, both := range taken() {
		for _, state := range states()[1:] {
			for _, prio := range []int{-1, 0, 1, 9} {
				i := port(2, prio, state, both[0], both[1])
				steps(t, "up", i, api.EUp, list(cand(3, 1, 3, 0)), i)
			}
		}
	}
}

// P10.1: down out of every state: nobody is designated, or the backup; it is another one, unless it was all that.
func TestDown(t *testing.T) {
	for _, both := range taken() {
		for _, state := range states() {
			for _, prio := range []int{-1, 0, 1, 255} {
				for _, others := range [][]api.Cand{nil, list(cand(3, 1, 3, 0)), list(cand(1, 1, 2, 1), cand(3, 1, 2, 1))} {
					steps(t, "down", port(2, prio, state, both[0], both[1]), api.EDown, others, port(2, prio, api.IDown, 0, 0))
				}
			}
		}
	}
}

// P10.1: one that is down already is another one just if somebody was designated, or the backup.
func TestDownOfOneThatIsDown(t *testing.T) {
	for _, x := range []struct {
		name    string
		dr, bdr int
		another bool
	}{
		{"both 0", 0, 0, false},
		{"designated isn't", 2, 0, true},
		{"the backup isn't", 0, 2, true},
		{"neither is", 1, 2, true},
		{"below 0", -1, 0, true},
	} {
		got, is := Step(port(2, 1, api.IDown, x.dr, x.bdr), api.EDown)
		if got != port(2, 1, api.IDown, 0, 0) || is != x.another {
			t.Errorf("%s: %v, %v", x.name, got, is)
		}
	}
}

// vote is an election: whom 2, of a priority, takes for both, the others, and what is behind it.
type vote struct {
	name          string
	prio          int
	dr, bdr       int
	others        []api.Cand
	state         int
	newDr, newBdr int
}

// votes holds each election out of each state that has one, in all orders of the others.
func votes(t *testing.T, l ...vote) {
	t.Helper()
	for _, v := range l {
		for _, by := range elections() {
			probe.Turns(v.others, func(others []api.Cand) {
				i := port(2, v.prio, by[0], v.dr, v.bdr)
				steps(t, v.name, i, by[1], others, port(2, v.prio, v.state, v.newDr, v.newBdr))
			})
		}
	}
}

// P10.1: an election by one that is alone.
func TestElectionAlone(t *testing.T) {
	votes(t,
		vote{"it knows of none", 1, 0, 0, nil, api.IDr, 2, 0},
		vote{"of a great priority", math.MaxInt64, 0, 0, nil, api.IDr, 2, 0},
		vote{"it is designated", 1, 2, 0, nil, api.IDr, 2, 0},
		vote{"it was the backup", 1, 1, 2, nil, api.IDr, 2, 0},
		vote{"it takes itself for both", 1, 2, 2, nil, api.IDr, 2, 0},
		vote{"both are gone", 1, 7, 8, nil, api.IDr, 2, 0},
		vote{"priority 0", 0, 0, 0, nil, api.IOther, 0, 0},
		vote{"priority 0, both are gone", 0, 7, 8, nil, api.IOther, 0, 0},
		vote{"priority 0, it was designated", 0, 2, 0, nil, api.IOther, 0, 0},
		vote{"priority 0, it was the backup", 0, 0, 2, nil, api.IOther, 0, 0},
		vote{"a priority below 0", -1, 2, 2, nil, api.IOther, 0, 0},
	)
}

// P10.1: an election behind which it is designated.
func TestElectionOfDesignated(t *testing.T) {
	votes(t,
		vote{"both for one go, beside one", 1, 0, 0, list(cand(1, 1, 0, 0)), api.IDr, 2, 1},
		vote{"both for one go, beside one that may not be elected", 1, 0, 0, list(cand(9, 0, 0, 0)), api.IDr, 2, 0},
		vote{"both for one go, beside several", 5, 0, 0, list(cand(1, 2, 0, 0), cand(3, 4, 0, 0), cand(4, 3, 0, 0)), api.IDr, 2, 3},
		vote{"it stays so, beside a better one", 1, 2, 0, list(cand(3, 9, 0, 0)), api.IDr, 2, 3},
		vote{"it stays so, beside a backup and a better one", 1, 2, 1, list(cand(1, 1, 2, 1), cand(3, 9, 2, 1)), api.IDr, 2, 1},
		vote{"it is the better one of two", 2, 2, 0, list(cand(3, 1, 3, 0)), api.IDr, 2, 0},
		vote{"the backup becomes designated", 1, 1, 2, list(cand(3, 1, 1, 2), cand(4, 1, 1, 2)), api.IDr, 2, 4},
		vote{"the backup becomes designated, beside a better one", 1, 1, 2, list(cand(3, 9, 1, 2), cand(4, 0, 1, 2)), api.IDr, 2, 3},
		vote{"it took itself for both", 1, 2, 2, list(cand(1, 1, 0, 0)), api.IDr, 2, 1},
	)
}

// P10.1: an election behind which it is the backup.
func TestElectionOfBackup(t *testing.T) {
	votes(t,
		vote{"beside one that is designated", 1, 0, 0, list(cand(1, 1, 1, 0)), api.IBackup, 1, 2},
		vote{"beside a designated one, and a lesser one", 1, 1, 0, list(cand(1, 1, 1, 0), cand(3, 0, 1, 0)), api.IBackup, 1, 2},
		vote{"it stays so", 1, 1, 2, list(cand(1, 1, 1, 2)), api.IBackup, 1, 2},
		vote{"it stays so, beside better ones", 1, 1, 2, list(cand(1, 1, 1, 2), cand(3, 9, 1, 2), cand(4, 9, 1, 2)), api.IBackup, 1, 2},
		vote{"of two backups it is the better one", 2, 1, 2, list(cand(1, 1, 1, 3), cand(3, 1, 1, 3)), api.IBackup, 1, 2},
		vote{"a new designated router", 1, 1, 2, list(cand(3, 1, 3, 2)), api.IBackup, 3, 2},
	)
}

// P10.1: an election behind which it is neither.
func TestElectionOfNeither(t *testing.T) {
	votes(t,
		vote{"beside two that are", 1, 0, 0, list(cand(1, 1, 1, 3), cand(3, 1, 1, 3)), api.IOther, 1, 3},
		vote{"the better one of three", 9, 1, 3, list(cand(1, 1, 1, 3), cand(3, 1, 1, 3)), api.IOther, 1, 3},
		vote{"beside a better one that knows of none", 1, 0, 0, list(cand(3, 1, 0, 0)), api.IOther, 3, 3},
		vote{"another one becomes both", 1, 1, 3, list(cand(3, 1, 1, 3)), api.IOther, 3, 3},
		vote{"another backup", 1, 1, 0, list(cand(1, 1, 1, 0), cand(3, 1, 1, 0)), api.IOther, 1, 3},
		vote{"another backup, of a greater priority", 1, 4, 0, list(cand(4, 1, 4, 0), cand(1, 2, 4, 0)), api.IOther, 4, 1},
		vote{"priority 0, beside one", 0, 0, 0, list(cand(1, 1, 0, 0)), api.IOther, 1, 1},
		vote{"priority 0, beside two that are", 0, 0, 0, list(cand(1, 1, 1, 3), cand(3, 1, 1, 3)), api.IOther, 1, 3},
		vote{"priority 0, it was designated", 0, 2, 3, list(cand(1, 1, 2, 3), cand(3, 1, 2, 3)), api.IOther, 3, 3},
		vote{"priority 0, it was the backup", 0, 1, 2, list(cand(1, 1, 1, 2), cand(3, 1, 1, 2)), api.IOther, 1, 3},
		vote{"priority 0, beside others that may not be elected", 0, 7, 8, list(cand(1, 0, 1, 3), cand(3, 0, 1, 3)), api.IOther, 0, 0},
	)
}

// P10.1: elections in which only the second go decides what it is.
func TestElectionOfSecondGo(t *testing.T) {
	votes(t,
		vote{"designated once, now the backup", 1, 2, 0, list(cand(3, 1, 3, 0)), api.IBackup, 3, 2},
		vote{"designated once, now the backup, beside a lesser one", 1, 2, 0, list(cand(3, 1, 3, 0), cand(1, 1, 0, 0)), api.IBackup, 3, 2},
		vote{"designated once, now neither", 1, 2, 0, list(cand(3, 1, 3, 0), cand(4, 1, 0, 0)), api.IOther, 3, 4},
		vote{"it took itself for both, and is the backup", 1, 2, 2, list(cand(3, 1, 3, 0)), api.IBackup, 3, 2},
		vote{"it took itself for both, and is neither", 1, 2, 2, list(cand(3, 1, 3, 0), cand(4, 1, 0, 0)), api.IOther, 3, 4},
		vote{"the backup is another one than by the first go", 1, 0, 0, list(cand(1, 1, 0, 0), cand(3, 0, 0, 0)), api.IDr, 2, 1},
		vote{"the backup once, now designated, with a new backup", 1, 7, 2, list(cand(1, 1, 7, 2)), api.IDr, 2, 1},
	)
}

// P10.1: it tells another one just if it is: not if all stays, but if only the backup is another one, or only the state.
func TestAnotherOne(t *testing.T) {
	for _, x := range []struct {
		name    string
		i       api.Iface
		others  []api.Cand
		another bool
	}{
		{"alone, designated", port(2, 1, api.IDr, 2, 0), nil, false},
		{"alone, neither, of priority 0", port(2, 0, api.IOther, 0, 0), nil, false},
		{"designated, beside a backup", port(2, 1, api.IDr, 2, 1), list(cand(1, 1, 2, 1)), false},
		{"the backup", port(2, 1, api.IBackup, 1, 2), list(cand(1, 1, 1, 2), cand(3, 9, 0, 0)), false},
		{"neither", port(2, 1, api.IOther, 1, 3), list(cand(1, 1, 1, 3), cand(3, 1, 1, 3)), false},
		{"neither, another one is both", port(2, 1, api.IOther, 3, 3), list(cand(3, 1, 0, 0)), false},
		{"only the backup comes", port(2, 1, api.IDr, 2, 0), list(cand(1, 1, 2, 0)), true},
		{"only the backup goes", port(2, 1, api.IDr, 2, 1), nil, true},
		{"only the backup is another one", port(2, 1, api.IDr, 2, 1), list(cand(3, 1, 0, 3)), true},
		{"only the backup of one that is neither", port(2, 1, api.IOther, 1, 3), list(cand(1, 1, 1, 3), cand(4, 1, 1, 4)), true},
		{"only the designated router", port(2, 0, api.IOther, 1, 3), list(cand(3, 1, 0, 3)), true},
		{"only the designated router of a backup", port(2, 1, api.IBackup, 1, 2), list(cand(3, 1, 3, 0)), true},
		{"only the state", port(2, 1, api.IOther, 2, 0), nil, true},
		{"only the state of a backup", port(2, 1, api.IDr, 1, 2), list(cand(1, 1, 1, 2)), true},
		{"only the state of one that is neither", port(2, 1, api.IBackup, 1, 3), list(cand(1, 1, 1, 3), cand(3, 1, 1, 3)), true},
		{"all", port(2, 1, api.IBackup, 1, 2), nil, true},
	} {
		now, is := Step(x.i, api.EChange, x.others...)
		if is != x.another || (now != x.i) != x.another {
			t.Errorf("%s: %v, %v", x.name, now, is)
		}
		if again, is := Step(now, api.EChange, x.others...); !x.another && (is || again != now) {
			t.Errorf("%s: again %v, %v", x.name, again, is)
		}
	}
}

// P10.1: an interface as a candidate, in every state.
func TestOwn(t *testing.T) {
	for _, state := range states() {
		for _, both := range taken() {
			for _, prio := range []int{math.MinInt64, -1, 0, 1, 255, math.MaxInt64} {
				for _, self := range []int{math.MinInt64, -1, 0, 1, 2, 15, 16, math.MaxInt64} {
					if got := Own(port(self, prio, state, both[0], both[1])); got != cand(self, prio, both[0], both[1]) {
						t.Errorf("Own in %d = %v", state, got)
					}
				}
			}
		}
	}
}

// P10.2: in every state, of a neighbor that takes itself, another one, or nobody, for either: just a waiting one sees.
func TestSees(t *testing.T) {
	for _, x := range []struct {
		name    string
		dr, bdr int
		sees    bool
	}{
		{"the backup, with no designated router", 0, 3, true},
		{"the backup, with a designated router", 1, 3, true},
		{"the backup, this router is designated", 2, 3, true},
		{"both", 3, 3, true},
		{"designated, with no backup", 3, 0, true},
		{"designated, with a backup", 3, 1, false},
		{"designated, this router is the backup", 3, 2, false},
		{"designated, with a backup below 0", 3, -1, false},
		{"neither, it knows of none", 0, 0, false},
		{"neither, another one is designated", 1, 0, false},
		{"neither, this router is designated", 2, 0, false},
		{"neither, another one is the backup", 0, 1, false},
		{"neither, this router is the backup", 0, 2, false},
		{"neither, others are both", 1, 4, false},
		{"neither, another one is both", 1, 1, false},
		{"neither, this router is both", 2, 2, false},
	} {
		for _, state := range states() {
			for _, prio := range []int{-1, 0, 1, 9} {
				for _, both := range taken() {
					i := port(2, prio, state, both[0], both[1])
					for _, theirs := range []int{-1, 0, 1, 255} {
						if got := Sees(i, cand(3, theirs, x.dr, x.bdr)); got != (x.sees && state == api.IWaiting) {
							t.Errorf("%s: Sees(%v, ..) = %v", x.name, i, got)
						}
					}
				}
			}
		}
	}
}

// P10.2: of every number the neighbor may have; by nobody's number nobody takes itself for anything.
func TestSeesOfEachNumber(t *testing.T) {
	i := port(2, 1, api.IWaiting, 0, 0)
	for _, id := range []int{1, 2, 3, 15, 16, 255, math.MaxInt64} {
		for _, dr := range []int{0, id, 1, 2, 99} {
			for _, bdr := range []int{0, id, 1, 2, 99} {
				want := bdr == id
				if dr == id && bdr == 0 {
					want = true
				}
				if got := Sees(i, cand(id, 1, dr, bdr)); got != want {
					t.Errorf("Sees(.., %d with %d, %d) = %v", id, dr, bdr, got)
				}
			}
		}
	}
	for _, both := range [][2]int{{0, 0}, {0, 1}, {1, 0}, {1, 1}} {
		if Sees(i, cand(0, 1, both[0], both[1])) {
			t.Errorf("nobody, with %v, is seen", both)
		}
	}
}

// goOver answers one go over all that may be elected, told another way: by what each of them takes itself for, the best of each rank.
func goOver(all []api.Cand) (int, int) {
	var ranks [3][]api.Cand // who says nothing of itself, who takes itself for the backup, who takes itself for the designated router
	for _, c := range all {
		rank := 0
		if c.Bdr == c.Id {
			rank = 1
		}
		if c.Dr == c.Id {
			rank = 2
		}
		if c.Prio > 0 {
			ranks[rank] = append(ranks[rank], c)
		}
	}
	top := func(l []api.Cand) int {
		if len(l) == 0 {
			return 0
		}
		return slices.MaxFunc(l, func(a, b api.Cand) int {
			if a.Prio != b.Prio {
				return a.Prio - b.Prio
			}
			return a.Id - b.Id
		}).Id
	}
	bdr := top(ranks[1])
	if bdr == 0 {
		bdr = top(ranks[0])
	}
	if dr := top(ranks[2]); dr != 0 {
		return dr, bdr
	}
	return bdr, bdr
}

// behind answers what an interface is behind an event, told another way.
func behind(i api.Iface, event int, others []api.Cand) api.Iface {
	switch {
	case event == 1:
		i.State, i.Dr, i.Bdr = 0, 0, 0
	case event == 0 && i.State == 0:
		i.State, i.Dr, i.Bdr = 2, 0, 0
		if i.Prio > 0 {
			i.State = 1
		}
	case i.State == 1 && (event == 2 || event == 3), i.State >= 2 && i.State <= 4 && event == 4:
		dr, bdr := goOver(append(slices.Clone(others), cand(i.Self, i.Prio, i.Dr, i.Bdr)))
		own := cand(i.Self, i.Prio, 0, 0)
		if dr == i.Self {
			own.Dr = i.Self
		}
		if bdr == i.Self {
			own.Bdr = i.Self
		}
		i.Dr, i.Bdr = goOver(append(slices.Clone(others), own))
		i.State = 2
		if i.Bdr == i.Self {
			i.State = 3
		}
		if i.Dr == i.Self {
			i.State = 4
		}
	}
	return i
}

// against holds a step against what it is told another way, and an election against layer 9.
func against(t *testing.T, i api.Iface, event int, others ...api.Cand) {
	t.Helper()
	steps(t, "told another way", i, event, others, behind(i, event, others))
	now, is := Step(i, event, others...)
	if now.Self != i.Self || now.Prio != i.Prio || is != (now != i) {
		t.Errorf("Step(%v, %d, %v) = %v, %v", i, event, others, now, is)
	}
	if slices.Contains(elections(), [2]int{i.State, event}) {
		dr, bdr := elect.Elect(i.Self, append(slices.Clone(others), Own(i))...)
		state := api.IOther
		switch i.Self {
		case dr:
			state = api.IDr
		case bdr:
			state = api.IBackup
		}
		if now.Dr != dr || now.Bdr != bdr || now.State != state {
			t.Errorf("Step(%v, %d, %v) = %v, elected are %d, %d", i, event, others, now, dr, bdr)
		}
	}
}

// kinds answers all candidates of a number, of these priorities, by whom they may take for either: none, itself, 2, one that is none of them.
func kinds(id int, prios ...int) []api.Cand {
	var out []api.Cand
	for _, p := range prios {
		for _, dr := range []int{0, id, 2, 9} {
			for _, bdr := range []int{0, id, 2, 9} {
				out = append(out, cand(id, p, dr, bdr))
			}
		}
	}
	return out
}

// P10.1: every state by every event, with no others, with each kind of one, and, where there are elections, of two, is answered as it is told another way.
func TestAllOfThree(t *testing.T) {
	for _, own := range slices.Concat(kinds(2, -1, 0, 1, 2), list(cand(2, 1, 1, 3), cand(2, 1, 3, 1), cand(2, 1, 3, 2), cand(2, 1, 1, 2))) {
		for _, state := range states() {
			for _, event := range events() {
				i := port(2, own.Prio, state, own.Dr, own.Bdr)
				against(t, i, event)
				for _, a := range kinds(1, 0, 1, 2) {
					against(t, i, event, a)
				}
			}
		}
		if t.Failed() {
			return
		}
		for _, a := range kinds(1, 0, 1, 2) {
			for n, b := range kinds(3, 0, 1, 2) {
				by := elections()[n%5]
				i := port(2, own.Prio, by[0], own.Dr, own.Bdr)
				against(t, i, by[1], a, b)
				against(t, i, by[1], b, a)
			}
		}
	}
}

// P10.1: among up to fifteen, from each of its states, by whatever events follow each other, it is what it is told another way.
func TestOneAfterAnother(t *testing.T) {
	for seed := range 500 {
		b := probe.Mixed(2000, seed)
		next := func(n int) int {
			x := int(b[0])
			b = b[1:]
			return x * n / 256
		}
		self := 1 + seed%15
		i := port(self, next(4), api.IDown, 0, 0)
		for range 20 {
			var others []api.Cand
			for range next(15) {
				id := 1 + (self+len(others))%15
				to := []int{0, id, self, 1 + next(15)}
				others = append(others, cand(id, next(4), to[next(4)], to[next(4)]))
			}
			if next(8) == 0 {
				i.Prio = next(3)
			}
			event := []int{0, 1, 2, 3, 4, 4, 4, 2, 0}[next(9)]
			against(t, i, event, others...)
			i, _ = Step(i, event, others...)
		}
	}
}

// P10.1: what it takes for both counts in its own election: a designated one keeps its place beside a better one, that one only with it.
func TestOwnWordCounts(t *testing.T) {
	better := cand(3, 9, 0, 0)
	steps(t, "it takes itself", port(2, 1, api.IDr, 2, 0), api.EChange, list(better), port(2, 1, api.IDr, 2, 3))
	steps(t, "it takes none", port(2, 1, api.IOther, 0, 0), api.EChange, list(better), port(2, 1, api.IOther, 3, 3))
	steps(t, "it takes itself for the backup", port(2, 1, api.IBackup, 0, 2), api.EChange, list(better), port(2, 1, api.IDr, 2, 3))
	steps(t, "it waits, and takes itself", port(2, 1, api.IWaiting, 2, 0), api.EWait, list(better), port(2, 1, api.IDr, 2, 3))
}

// R1: interfaces and candidates that aren't as told end, and are answered the same again, what they are left as it is.
func TestWrongOnes(t *testing.T) {
	ids := []int{math.MinInt64, -3, -1, 0, 1, 2, 2, math.MaxInt64}
	for seed := range 400 {
		b := probe.Mixed(40, seed)
		i := port(ids[b[0]/32], int(b[1])%4-1, states()[b[2]%12], ids[b[3]/32], ids[b[4]/32])
		var others []api.Cand
		for n := range seed % 7 {
			id := ids[b[4*n+5]/32]
			others = append(others, cand(id, int(b[4*n+6])%4-1, ids[b[4*n+7]/32], ids[b[4*n+8]/32]))
		}
		was := slices.Clone(others)
		for _, event := range events() {
			now, is := Step(i, event, others...)
			if now.Self != i.Self || now.Prio != i.Prio || is != (now != i) {
				t.Errorf("Step(%v, %d, %v) = %v, %v", i, event, others, now, is)
			}
			if is && now.State == api.IDr && (now.Dr != i.Self || now.Dr == 0) {
				t.Errorf("Step(%v, %d, %v) = %v", i, event, others, now)
			}
			if again, too := Step(i, event, others...); again != now || too != is {
				t.Errorf("Step(%v, %d, %v) = %v, and then %v", i, event, others, now, again)
			}
		}
		for _, c := range others {
			if Sees(i, c) && i.State != api.IWaiting {
				t.Errorf("Sees(%v, %v)", i, c)
			}
		}
		if !slices.Equal(others, was) {
			t.Errorf("%v, was %v", others, was)
		}
	}
}

// P10.1, R1: nobody, whose number is 0, is neither designated nor the backup where these are none.
func TestNobody(t *testing.T) {
	for _, by := range elections() {
		for _, prio := range []int{-1, 0, 1} {
			steps(t, "alone", port(0, prio, by[0], 0, 0), by[1], nil, port(0, prio, api.IOther, 0, 0))
		}
		steps(t, "beside one", port(0, 0, by[0], 0, 0), by[1], list(cand(1, 1, 1, 0)), port(0, 0, api.IOther, 1, 0))
	}
}

// R4: the others that are handed over stay as they are, spare room included, and what stands there isn't asked.
func TestKeepsItsHandsOff(t *testing.T) {
	for _, mark := range []api.Cand{cand(9, 99, 9, 9), cand(9, 99, 0, 9), cand(9, 99, 0, 0), cand(2, 99, 2, 2)} {
		for _, others := range [][]api.Cand{
			nil, list(cand(1, 1, 0, 0)), list(cand(3, 1, 3, 0)), list(cand(1, 1, 1, 3), cand(3, 1, 1, 3)),
			list(cand(1, 1, 2, 1), cand(3, 9, 2, 1), cand(4, 0, 0, 0)),
		} {
			for _, state := range states() {
				for _, event := range events() {
					spare, whole := probe.Roomy(others, 4, mark)
					was := slices.Clone(whole)
					for _, i := range []api.Iface{port(2, 1, state, 0, 0), port(2, 1, state, 2, 2), port(2, 0, state, 1, 2)} {
						steps(t, "spare room", i, event, spare, behind(i, event, others))
					}
					if !slices.Equal(whole, was) {
						t.Errorf("what was handed over changed: %v, was %v", whole, was)
					}
				}
			}
		}
	}
}

// R5: the same call is answered the same, whatever was called ahead.
func TestSameAgain(t *testing.T) {
	type call struct {
		i      api.Iface
		event  int
		others []api.Cand
		want   api.Iface
	}
	calls := []call{
		{port(2, 1, api.IDown, 9, 9), api.EUp, nil, port(2, 1, api.IWaiting, 0, 0)},
		{port(2, 0, api.IDown, 9, 9), api.EUp, nil, port(2, 0, api.IOther, 0, 0)},
		{port(2, 1, api.IWaiting, 0, 0), api.EWait, list(cand(1, 1, 0, 0)), port(2, 1, api.IDr, 2, 1)},
		{port(2, 1, api.IWaiting, 0, 0), api.ESeen, list(cand(1, 1, 1, 0)), port(2, 1, api.IBackup, 1, 2)},
		{port(2, 1, api.IDr, 2, 1), api.EChange, nil, port(2, 1, api.IDr, 2, 0)},
		{port(2, 1, api.IDr, 2, 1), api.EDown, nil, port(2, 1, api.IDown, 0, 0)},
		{port(2, 1, api.IDr, 2, 1), api.EWait, nil, port(2, 1, api.IDr, 2, 1)},
	}
	for _, first := range calls {
		for _, second := range calls {
			steps(t, "ahead", first.i, first.event, first.others, first.want)
			steps(t, "again", second.i, second.event, second.others, second.want)
			if Sees(port(2, 1, api.IOther, 0, 0), cand(1, 1, 1, 0)) || !Sees(port(2, 1, api.IWaiting, 0, 0), cand(1, 1, 1, 0)) {
				t.Error("Sees is answered otherwise again")
			}
			if Own(second.i) != cand(2, second.i.Prio, second.i.Dr, second.i.Bdr) {
				t.Error("Own is answered otherwise again")
			}
		}
	}
}
