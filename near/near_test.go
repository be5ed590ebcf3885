package near

import (
	"math"
	"slices"
	"testing"

	"syndic/api"
	"syndic/probe"
)

// grid is where a neighbor of each state is behind each event, in the chapter's order of both.
type grid [7][9]int

// grids answers the chapter's table written out in full, of neighbors that aren't adjacent, and of those that are.
func grids() (apart, adjacent grid) {
	//       VHello VTwo VOne VAdj VAgree VWant VDone VBad VGone
	apart = grid{
		{1, 0, 0, 0, 0, 0, 0, 0, 0}, // NDown
		{1, 2, 1, 1, 1, 1, 1, 1, 0}, // NInit
		{2, 2, 1, 2, 2, 2, 2, 2, 0}, // NTwo
		{3, 3, 1, 2, 4, 3, 3, 3, 0}, // NStart
		{4, 4, 1, 2, 4, 5, 6, 3, 0}, // NExch
		{5, 5, 1, 2, 5, 5, 6, 3, 0}, // NLoad
		{6, 6, 1, 2, 6, 6, 6, 3, 0}, // NFull
	}
	adjacent = grid{
		{1, 0, 0, 0, 0, 0, 0, 0, 0}, // NDown
		{1, 3, 1, 1, 1, 1, 1, 1, 0}, // NInit
		{2, 2, 1, 3, 2, 2, 2, 2, 0}, // NTwo
		{3, 3, 1, 3, 4, 3, 3, 3, 0}, // NStart
		{4, 4, 1, 4, 4, 5, 6, 3, 0}, // NExch
		{5, 5, 1, 5, 5, 5, 6, 3, 0}, // NLoad
		{6, 6, 1, 6, 6, 6, 6, 3, 0}, // NFull
	}
	return apart, adjacent
}

// behind answers where a neighbor is behind an event, told another way.
func behind(state, event int, adjacent bool) int {
	known := state >= 0 && state <= 6
	switch {
	case event == 0 && state == 0:
		return 1
	case event == 1 && state == 1 && adjacent, event == 3 && state == 2 && adjacent:
		return 3
	case event == 1 && state == 1, event == 3 && known && state >= 3 && !adjacent:
		return 2
	case event == 2 && known && state >= 2:
		return 1
	case event == 4 && state == 3:
		return 4
	case event == 5 && state == 4:
		return 5
	case event == 6 && (state == 4 || state == 5):
		return 6
	case event == 7 && known && state >= 4:
		return 3
	case event == 8 && known:
		return 0
	}
	return state
}

// strange answers numbers that are no state's and no event's.
func strange() []int {
	return []int{-1, -2, -7, -8, 9, 10, 15, 16, 63, 64, 127, 128, 255, 256, 1 << 32, 1<<32 + 1, math.MinInt64, math.MinInt64 + 1, math.MaxInt64 - 1, math.MaxInt64}
}

// states answers the states that the chapter knows, and others.
func states() []int {
	return append([]int{api.NDown, api.NInit, api.NTwo, api.NStart, api.NExch, api.NLoad, api.NFull, 7, 8}, strange()...)
}

// events answers the events that the chapter knows, and others.
func events() []int {
	return append([]int{api.VHello, api.VTwo, api.VOne, api.VAdj, api.VAgree, api.VWant, api.VDone, api.VBad, api.VGone}, strange()...)
}

// steps holds a step, and that it tells another state just if it is.
func steps(t *testing.T, state, event int, adjacent bool, want int) {
	t.Helper()
	got, is := Step(state, event, adjacent)
	if got != want || is != (want != state) {
		t.Errorf("Step(%d, %d, %v) = %d, %v, want %d, %v", state, event, adjacent, got, is, want, want != state)
	}
}

// leads holds the state behind events.
func leads(t *testing.T, want int, l ...int) {
	t.Helper()
	if got := Path(l...); got != want {
		t.Errorf("Path(%v) = %d, want %d", l, got, want)
	}
}

// adjacents holds whether both are to know the same, in each state, and of each priority, that the interface may have.
func adjacents(t *testing.T, name string, self, dr, bdr, id int, want bool) {
	t.Helper()
	for _, state := range []int{api.IDown, api.IWaiting, api.IOther, api.IBackup, api.IDr, -1, 5, math.MinInt64, math.MaxInt64} {
		for _, prio := range []int{-1, 0, 1, 255, math.MaxInt64} {
			i := api.Iface{Self: self, Prio: prio, State: state, Dr: dr, Bdr: bdr}
			if got := Adjacent(i, id); got != want {
				t.Errorf("%s: Adjacent(%v, %d) = %v", name, i, id, got)
			}
		}
	}
}

// P11.1: of 2, and its neighbor 3, whoever is designated, and the backup.
func TestAdjacent(t *testing.T) {
	for _, x := range []struct {
		name    string
		dr, bdr int
		want    bool
	}{
		{"it is designated", 2, 1, true},
		{"it is designated, with no backup", 2, 0, true},
		{"it is the backup", 1, 2, true},
		{"it is the backup, with nobody designated", 0, 2, true},
		{"it is both", 2, 2, true},
		{"the neighbor is designated", 3, 1, true},
		{"the neighbor is designated, with no backup", 3, 0, true},
		{"the neighbor is the backup", 1, 3, true},
		{"the neighbor is the backup, with nobody designated", 0, 3, true},
		{"the neighbor is both", 3, 3, true},
		{"it is designated, the neighbor the backup", 2, 3, true},
		{"it is the backup, the neighbor designated", 3, 2, true},
		{"others are both", 1, 4, false},
		{"another one is both", 1, 1, false},
		{"nobody is either", 0, 0, false},
		{"another one is designated, with no backup", 1, 0, false},
		{"another one is the backup, with nobody designated", 0, 1, false},
		{"numbers that are nobody's", -2, -3, false},
		{"numbers at the ends", math.MinInt64, math.MaxInt64, false},
		{"a byte beyond", 2 + 256, 3 + 256, false},
		{"addresses", api.Addr(1, 2), api.Addr(1, 3), false},
	} {
		adjacents(t, x.name, 2, x.dr, x.bdr, 3, x.want)
	}
}

// P11.1: of each two, among each two that are designated and the backup: told another way, by whom both of them are.
func TestAdjacentOfEachTwo(t *testing.T) {
	for self := 1; self <= api.MaxId; self++ {
		for id := 1; id <= api.MaxId; id++ {
			for dr := 0; dr <= api.MaxId; dr++ {
				for bdr := 0; bdr <= api.MaxId; bdr++ {
					want := slices.Contains([]int{self, id}, dr) || slices.Contains([]int{self, id}, bdr)
					for state := api.IDown; state <= api.IDr; state++ {
						i := api.Iface{Self: self, Prio: 1, State: state, Dr: dr, Bdr: bdr}
						if id != self && Adjacent(i, id) != want {
							t.Fatalf("Adjacent(%v, %d) = %v", i, id, !want)
						}
					}
				}
			}
		}
	}
}

// P11.1: 0 is none: nobody, whose number that is, is neither designated nor the backup where there is none.
func TestAdjacentOfNobody(t *testing.T) {
	adjacents(t, "a neighbor that is nobody, neither is", 2, 0, 0, 0, false)
	adjacents(t, "a neighbor that is nobody, with no backup", 2, 1, 0, 0, false)
	adjacents(t, "a neighbor that is nobody, nobody is designated", 2, 0, 1, 0, false)
	adjacents(t, "a neighbor that is nobody of one that is designated", 2, 2, 0, 0, true)
	adjacents(t, "a neighbor that is nobody of one that is the backup", 2, 0, 2, 0, true)
	adjacents(t, "it is nobody", 0, 0, 0, 3, false)
	adjacents(t, "it is nobody, with no backup", 0, 1, 0, 3, false)
	adjacents(t, "it is nobody, nobody is designated", 0, 0, 1, 3, false)
	adjacents(t, "it is nobody, the neighbor is designated", 0, 3, 0, 3, true)
	adjacents(t, "it is nobody, the neighbor is the backup", 0, 0, 3, 3, true)
	adjacents(t, "both are nobody", 0, 0, 0, 0, false)
	adjacents(t, "both are nobody, others are both", 0, 1, 2, 0, false)
}

// P11.1: every state by every event, adjacent and not, by the chapter's table written out; numbers that are none of its own move nothing, and are moved by nothing.
func TestStep(t *testing.T) {
	apart, adjacent := grids()
	for _, state := range states() {
		for _, event := range events() {
			wantApart, wantAdjacent := state, state
			if state >= 0 && state < 7 && event >= 0 && event < 9 {
				wantApart, wantAdjacent = apart[state][event], adjacent[state][event]
			}
			steps(t, state, event, false, wantApart)
			steps(t, state, event, true, wantAdjacent)
			if behind(state, event, false) != wantApart || behind(state, event, true) != wantAdjacent {
				t.Errorf("%d by %d is told otherwise", state, event)
			}
		}
	}
}

// P11.1: the numbers beside the chapter's own, on both sides, are none of them.
func TestStepOfStrangeNumbers(t *testing.T) {
	for n := -300; n <= 300; n++ {
		for _, both := range []bool{false, true} {
			for event := -300; event <= 300; event++ {
				if got, is := Step(n, event, both); got != behind(n, event, both) || is != (got != n) {
					t.Errorf("Step(%d, %d, %v) = %d, %v", n, event, both, got, is)
				}
			}
		}
	}
}

// P11.1: the second part of the answer is true just if the state is another one.
func TestAnotherState(t *testing.T) {
	for _, x := range []struct {
		name         string
		state, event int
		adjacent     bool
		now          int
		another      bool
	}{
		{"NStart by VAdj, adjacent", api.NStart, api.VAdj, true, api.NStart, false},
		{"NStart by VAdj, not adjacent", api.NStart, api.VAdj, false, api.NTwo, true},
		{"NFull by VAdj, adjacent", api.NFull, api.VAdj, true, api.NFull, false},
		{"NFull by VAdj, not adjacent", api.NFull, api.VAdj, false, api.NTwo, true},
		{"NTwo by VAdj, adjacent", api.NTwo, api.VAdj, true, api.NStart, true},
		{"NTwo by VAdj, not adjacent", api.NTwo, api.VAdj, false, api.NTwo, false},
		{"NInit by VAdj, adjacent", api.NInit, api.VAdj, true, api.NInit, false},
		{"NDown by VGone", api.NDown, api.VGone, true, api.NDown, false},
		{"NDown by VGone, not adjacent", api.NDown, api.VGone, false, api.NDown, false},
		{"NInit by VGone", api.NInit, api.VGone, false, api.NDown, true},
		{"NInit by VHello", api.NInit, api.VHello, true, api.NInit, false},
		{"NInit by VOne", api.NInit, api.VOne, true, api.NInit, false},
		{"NTwo by VTwo, adjacent", api.NTwo, api.VTwo, true, api.NTwo, false},
		{"NStart by VTwo, not adjacent", api.NStart, api.VTwo, false, api.NStart, false},
		{"NStart by VBad", api.NStart, api.VBad, true, api.NStart, false},
		{"NExch by VAgree", api.NExch, api.VAgree, true, api.NExch, false},
		{"NLoad by VWant", api.NLoad, api.VWant, true, api.NLoad, false},
		{"NFull by VDone", api.NFull, api.VDone, true, api.NFull, false},
		{"one that is none by VGone", 7, api.VGone, true, 7, false},
		{"one below all by VGone", -1, api.VGone, false, -1, false},
		{"NFull by one that is none", api.NFull, 9, true, api.NFull, false},
	} {
		if now, is := Step(x.state, x.event, x.adjacent); now != x.now || is != x.another {
			t.Errorf("%s: %d, %v", x.name, now, is)
		}
	}
}

// P11.2: no events, one, and each of them one behind another.
func TestPath(t *testing.T) {
	leads(t, api.NDown)
	leads(t, api.NDown, []int{}...)
	leads(t, api.NStart, api.VHello, api.VTwo) // the chapter's example
	for _, e := range events() {
		want := api.NDown
		if e == api.VHello {
			want = api.NInit
		}
		leads(t, want, e)
	}
	for _, x := range []struct {
		want int
		l    []int
	}{
		{api.NInit, []int{api.VHello, api.VHello}},
		{api.NInit, []int{api.VHello, api.VOne}},
		{api.NInit, []int{api.VHello, api.VAdj}},
		{api.NInit, []int{api.VTwo, api.VHello}},
		{api.NStart, []int{api.VHello, api.VTwo, api.VAdj}},
		{api.NExch, []int{api.VHello, api.VTwo, api.VAgree}},
		{api.NLoad, []int{api.VHello, api.VTwo, api.VAgree, api.VWant}},
		{api.NFull, []int{api.VHello, api.VTwo, api.VAgree, api.VWant, api.VDone}},
		{api.NFull, []int{api.VHello, api.VTwo, api.VAgree, api.VDone}},
		{api.NStart, []int{api.VHello, api.VTwo, api.VWant, api.VDone}},
		{api.NFull, []int{api.VHello, api.VTwo, api.VAgree, api.VDone, api.VWant, api.VAdj}},
	} {
		leads(t, x.want, x.l...)
	}
}

// P11.2: out of every state, by what leads back: to the exchange's beginning, to one that heard nobody, to one that is gone; and up again.
func TestPathBack(t *testing.T) {
	up := []int{api.VHello, api.VTwo, api.VAgree, api.VWant, api.VDone}
	states := []int{api.NDown, api.NInit, api.NStart, api.NExch, api.NLoad, api.NFull}
	for n, at := range states {
		to := up[:n:n]
		leads(t, at, to...)
		bad, one := at, at
		if at >= api.NExch {
			bad = api.NStart
		}
		if at >= api.NTwo {
			one = api.NInit
		}
		leads(t, bad, append(to, api.VBad)...)
		leads(t, one, append(to, api.VOne)...)
		leads(t, at, append(to, api.VAdj)...)
		leads(t, api.NDown, append(to, api.VGone)...)
		leads(t, api.NDown, append(to, api.VGone, api.VTwo, api.VAgree, api.VDone)...)
		leads(t, api.NInit, append(to, api.VGone, api.VHello)...)
		leads(t, api.NFull, append(append(to, api.VGone), up...)...)
		leads(t, api.NFull, append(append(to, api.VBad, api.VGone, api.VGone), up...)...)
	}
	leads(t, api.NFull, append(slices.Clone(up), api.VBad, api.VAgree, api.VDone)...)
	leads(t, api.NFull, append(slices.Clone(up), api.VOne, api.VTwo, api.VAgree, api.VWant, api.VDone)...)
}

// P11.2: events that move nothing, those that are none of the chapter's among them, change nothing between others.
func TestPathWithIdleOnes(t *testing.T) {
	up := []int{api.VHello, api.VTwo, api.VAgree, api.VWant, api.VDone}
	for _, idle := range append(strange(), api.VAdj, api.VHello) {
		var l []int
		for _, e := range up {
			l = append(l, e, idle, idle)
		}
		leads(t, api.NFull, l...)
	}
	for _, idle := range strange() {
		leads(t, api.NFull, append([]int{idle}, up...)...)
		leads(t, api.NStart, idle, api.VHello, idle, api.VTwo, idle, api.VWant)
		leads(t, api.NDown, idle, idle, idle)
	}
}

// P11.2: all rows of up to five events are answered as they are told another way.
func TestAllShortPaths(t *testing.T) {
	var from func(state int, l []int)
	from = func(state int, l []int) {
		leads(t, state, l...)
		if len(l) == 5 || t.Failed() {
			return
		}
		for _, e := range []int{-1, 0, 1, 2, 3, 4, 5, 6, 7, 8, 9} {
			from(behind(state, e, true), append(l, e))
		}
	}
	from(0, nil)
}

// P11.2: many events, in no plain order, and a great many of one round.
func TestLongPaths(t *testing.T) {
	for seed := range 200 {
		state := 0
		var l []int
		for _, b := range probe.Mixed(300, seed) {
			e := int(b) % 11
			if b > 200 { // so that it isn't gone at every tenth one
				e = int(b) % 7
			}
			l = append(l, e-1)
			state = behind(state, e-1, true)
			leads(t, state, l...)
		}
	}
	round := []int{api.VHello, api.VTwo, api.VAgree, api.VWant, api.VDone, api.VBad, api.VAgree, api.VDone, api.VGone}
	l := slices.Repeat(round, 20000)
	leads(t, api.NDown, l...)
	leads(t, api.NFull, l[:len(l)-1]...)
	leads(t, api.NExch, l[:len(l)-2]...)
	leads(t, api.NStart, l[:len(l)-3]...)
}

// P11.2: a path is its steps, one behind another, of one that is adjacent.
func TestPathIsItsSteps(t *testing.T) {
	for seed := range 100 {
		state := api.NDown
		var l []int
		for _, b := range probe.Mixed(100, seed) {
			l = append(l, events()[int(b)%len(events())])
			state, _ = Step(state, l[len(l)-1], true)
			leads(t, state, l...)
		}
	}
}

// R1: all that may be handed over ends, numbers at both ends of what they may be included.
func TestWrongOnes(t *testing.T) {
	ends := []int{math.MinInt64, math.MinInt64 + 1, -1, 0, 1, math.MaxInt64 - 1, math.MaxInt64}
	for _, a := range ends {
		for _, b := range ends {
			for _, c := range ends {
				for _, id := range ends {
					i := api.Iface{Self: a, Prio: c, State: a, Dr: b, Bdr: c}
					want := false
					for _, who := range []int{a, id} {
						if who != 0 && (who == b || who == c) {
							want = true
						}
					}
					if Adjacent(i, id) != want {
						t.Errorf("Adjacent(%v, %d) = %v", i, id, !want)
					}
				}
			}
			steps(t, a, b, true, behind(a, b, true))
			steps(t, a, b, false, behind(a, b, false))
			leads(t, behind(behind(0, a, true), b, true), a, b)
		}
	}
}

// R4: the events that are handed over stay as they are, spare room included, and what stands there moves nothing.
func TestKeepsItsHandsOff(t *testing.T) {
	up := []int{api.VHello, api.VTwo, api.VAgree, api.VWant, api.VDone}
	at := []int{api.NDown, api.NInit, api.NStart, api.NExch, api.NLoad, api.NFull}
	for n, want := range at {
		for _, mark := range events() {
			l, whole := probe.Roomy(up[:n], 4, mark)
			was := slices.Clone(whole)
			leads(t, want, l...)
			if !slices.Equal(whole, was) {
				t.Errorf("what was handed over changed: %v, was %v", whole, was)
			}
			probe.Scribble(l, api.VGone)
			leads(t, want, up[:n]...)
		}
	}
}

// R5: the same call is answered the same, whatever was called ahead.
func TestSameAgain(t *testing.T) {
	type call struct {
		state, event int
		adjacent     bool
	}
	var calls []call
	for _, state := range []int{-1, 0, 1, 2, 3, 4, 5, 6, 7} {
		for _, event := range []int{-1, 0, 1, 2, 3, 4, 5, 6, 7, 8, 9} {
			calls = append(calls, call{state, event, false}, call{state, event, true})
		}
	}
	i, j := api.Iface{Self: 2, Dr: 2}, api.Iface{Self: 2, Dr: 1, Bdr: 4}
	for n, first := range calls {
		for m, second := range calls {
			steps(t, first.state, first.event, first.adjacent, behind(first.state, first.event, first.adjacent))
			steps(t, second.state, second.event, second.adjacent, behind(second.state, second.event, second.adjacent))
			if (n+m)%7 == 0 {
				leads(t, behind(behind(0, first.event, true), second.event, true), first.event, second.event)
				leads(t, api.NStart, api.VHello, api.VTwo)
			}
			if !Adjacent(i, 3) || Adjacent(j, 3) || !Adjacent(j, 1+n%2*3) {
				t.Fatal("Adjacent is answered otherwise again")
			}
		}
	}
}
