package wheel

import (
	"math"
	"slices"
	"testing"

	"syndic/api"
	"syndic/probe"
)

// entry is a timer, and the tick for which it is armed.
type entry struct {
	timer api.Timer
	tick  int
}

// timer answers a timer of these numbers: Kind, Lan, Id, and the Key's Kind, Id and Adv.
func timer(n [6]int) api.Timer {
	return api.Timer{Kind: n[0], Lan: n[1], Id: n[2], Key: api.Key{Kind: n[3], Id: n[4], Adv: n[5]}}
}

// some answers a few timers as a router has them, in order.
func some() []api.Timer {
	k := api.Key{Kind: api.Network, Id: 18, Adv: 2}
	return []api.Timer{
		{Kind: api.THello, Lan: 0}, {Kind: api.THello, Lan: 2}, {Kind: api.TWait, Lan: 1}, {Kind: api.TPiece, Lan: 2, Id: 7},
		{Kind: api.TWant, Lan: 0, Id: 3}, {Kind: api.TRxmt, Lan: 0, Id: 3}, {Kind: api.TRxmt, Lan: 0, Id: 3, Key: k},
	}
}

// strays answers timers that none of the tests arms.
func strays() []api.Timer {
	return []api.Timer{
		{}, {Kind: 99}, {Kind: api.THello, Lan: 99}, {Kind: api.THello, Id: 99}, {Kind: api.THello, Key: api.Key{Kind: 99}},
		{Kind: api.THello, Key: api.Key{Id: 99}}, {Kind: api.THello, Key: api.Key{Adv: 99}}, {Kind: api.THello, Lan: -99},
		{Kind: math.MinInt64, Lan: math.MaxInt64, Id: math.MinInt64, Key: api.Key{Kind: math.MaxInt64, Id: math.MinInt64, Adv: math.MaxInt64}},
	}
}

// ends answers ticks below 0, about it, and at the ends of int, rising.
func ends() []int {
	return []int{math.MinInt64, math.MinInt64 + 1, -1 << 32, -7, -1, 0, 1, 7, 1 << 32, math.MaxInt64 - 1, math.MaxInt64}
}

// at answers an entry for each of the timers, all for the same tick.
func at(tick int, timers ...api.Timer) []entry {
	var out []entry
	for _, t := range timers {
		out = append(out, entry{t, tick})
	}
	return out
}

// filled answers a wheel with these entries, armed one by one.
func filled(list ...entry) *Wheel {
	w := New()
	for _, e := range list {
		w.Arm(e.tick, e.timer)
	}
	return w
}

// parted answers the entries that are due now, and the others.
func parted(now int, list ...entry) (out, rest []entry) {
	for _, e := range list {
		if e.tick <= now {
			out = append(out, e)
		} else {
			rest = append(rest, e)
		}
	}
	return out, rest
}

// holds holds what a wheel answers by Len and At against just these entries.
func holds(t *testing.T, w *Wheel, want ...entry) {
	t.Helper()
	if n := w.Len(); n != len(want) {
		t.Errorf("Len: %d, want %d", n, len(want))
	}
	for _, e := range want {
		if tick, is := w.At(e.timer); tick != e.tick || !is {
			t.Errorf("At(%v): %d, %v, want %d", e.timer, tick, is, e.tick)
		}
	}
}

// lacks holds that none of these timers is armed, and that to cancel them changes nothing.
func lacks(t *testing.T, w *Wheel, timers ...api.Timer) {
	t.Helper()
	n := w.Len()
	for _, m := range timers {
		if tick, is := w.At(m); tick != 0 || is {
			t.Errorf("At(%v): %d, %v, it isn't armed", m, tick, is)
		}
		if got := w.Cancel(m); got != 0 {
			t.Errorf("Cancel(%v): %d, it isn't armed", m, got)
		}
	}
	if w.Len() != n {
		t.Errorf("Len: %d, want %d: nothing was armed", w.Len(), n)
	}
}

// due holds what is due now against these timers, in order; they are armed no more, and nothing is due again.
func due(t *testing.T, w *Wheel, now int, want ...api.Timer) {
	t.Helper()
	n := w.Len()
	if got := w.Due(now); !slices.Equal(got, want) {
		t.Errorf("Due(%d): %v, want %v", now, got, want)
	}
	if w.Len() != n-len(want) {
		t.Errorf("Len behind Due(%d): %d, want %d", now, w.Len(), n-len(want))
	}
	if got := w.Due(now); len(got) != 0 {
		t.Errorf("Due(%d) again: %v", now, got)
	}
	lacks(t, w, want...)
}

// cancels holds how many of the timers were armed against n; none of them is behind it.
func cancels(t *testing.T, w *Wheel, n int, timers ...api.Timer) {
	t.Helper()
	was := w.Len()
	if got := w.Cancel(timers...); got != n {
		t.Errorf("Cancel(%v): %d, want %d", timers, got, n)
	}
	if w.Len() != was-n {
		t.Errorf("Len behind Cancel(%v): %d, want %d", timers, w.Len(), was-n)
	}
	lacks(t, w, timers...)
}

// drops holds how many timers of a network were armed against n.
func drops(t *testing.T, w *Wheel, lan, n int) {
	t.Helper()
	was := w.Len()
	if got := w.Drop(lan); got != n {
		t.Errorf("Drop(%d): %d, want %d", lan, got, n)
	}
	if w.Len() != was-n {
		t.Errorf("Len behind Drop(%d): %d, want %d", lan, w.Len(), was-n)
	}
}

// P8.1: a new wheel has no timers, and nothing is due, to be cancelled, or to be dropped.
func TestNewHasNothing(t *testing.T) {
	w := New()
	if w == nil {
		t.Fatal("New: nil")
	}
	holds(t, w)
	lacks(t, w, append(some(), strays()...)...)
	cancels(t, w, 0)
	for _, n := range ends() {
		due(t, w, n)
		drops(t, w, n, 0)
	}
	holds(t, w)
}

// P8.1: Arm of no timer changes nothing.
func TestArmNone(t *testing.T) {
	m := some()
	for _, w := range []*Wheel{New(), filled(at(4, m[:3]...)...)} {
		n := w.Len()
		for _, tick := range ends() {
			w.Arm(tick)
			w.Arm(tick, []api.Timer{}...)
		}
		holds(t, w, at(4, m[:n]...)...)
		lacks(t, w, m[n:]...)
		lacks(t, w, strays()...)
	}
}

// P8.1: Arm of one timer, and of several, arms these alone, beside those that were armed ahead.
func TestArm(t *testing.T) {
	m := some()
	w := New()
	w.Arm(5, m[2])
	holds(t, w, entry{m[2], 5})
	lacks(t, w, append(slices.Delete(slices.Clone(m), 2, 3), strays()...)...)
	w.Arm(9, m[6], m[0], m[4])
	holds(t, w, entry{m[2], 5}, entry{m[6], 9}, entry{m[0], 9}, entry{m[4], 9})
	lacks(t, w, m[1], m[3], m[5])
	w.Arm(5, m[1], m[3])
	holds(t, w, append(at(5, m[1:4]...), at(9, m[0], m[4], m[6])...)...)
	due(t, w, 9, m[1], m[2], m[3], m[0], m[4], m[6])
	holds(t, w)
	for n := range len(m) + 1 {
		w.Arm(n, m[:n]...)
		holds(t, w, at(n, m[:n]...)...)
		lacks(t, w, m[n:]...)
	}
	due(t, w, 7, m...)
}

// P8.1: a timer that is handed over twice in one call is armed once.
func TestArmTwiceInOneCall(t *testing.T) {
	m := some()
	w := New()
	w.Arm(3, m[1], m[1])
	holds(t, w, entry{m[1], 3})
	w.Arm(4, m[2], m[0], m[2], m[1], m[2], m[0])
	holds(t, w, at(4, m[:3]...)...)
	due(t, w, 4, m[:3]...)
	holds(t, w)
	w.Arm(6, m[5], m[5], m[5])
	cancels(t, w, 1, m[5])
	due(t, w, 6)
}

// P8.1: a timer that is armed already is armed for the new tick alone, be it an earlier one, a later one or the same one.
func TestArmAgain(t *testing.T) {
	m := some()
	for _, first := range ends() {
		for _, then := range ends() {
			for _, with := range [][]api.Timer{{m[3]}, {m[2], m[3]}, {m[3], m[4], m[3]}} {
				w := filled(append(at(first, m[3]), at(8, m[0], m[1])...)...)
				w.Arm(then, with...)
				want := at(8, m[0], m[1])
				for _, one := range m[2:5] {
					if slices.Contains(with, one) {
						want = append(want, entry{one, then})
					}
				}
				holds(t, w, want...)
				for _, now := range []int{min(first, then), max(first, then), math.MaxInt64} {
					var list []entry
					list, want = parted(now, want...)
					due(t, w, now, inOrder(list...)...)
					holds(t, w, want...)
				}
			}
		}
	}
}

// P8.1: a timer that was cancelled, due or dropped is armed anew as any other.
func TestArmAnew(t *testing.T) {
	m := api.Timer{Kind: api.TPiece, Lan: 2, Id: 5}
	for _, tick := range ends() {
		w := filled(entry{m, 4})
		cancels(t, w, 1, m)
		w.Arm(tick, m)
		holds(t, w, entry{m, tick})
		due(t, w, math.MaxInt64, m)
		w.Arm(tick, m)
		holds(t, w, entry{m, tick})
		drops(t, w, 2, 1)
		lacks(t, w, m)
		w.Arm(tick, m)
		holds(t, w, entry{m, tick})
		due(t, w, tick, m)
		holds(t, w)
	}
}

// P8.1: a timer is due at its tick, and behind it, not ahead of it, below 0 and at the ends of int, too.
func TestTicks(t *testing.T) {
	m := api.Timer{Kind: api.THello, Lan: 3}
	for _, tick := range ends() {
		for _, now := range ends() {
			w := filled(entry{m, tick})
			if tick <= now {
				due(t, w, now, m)
				holds(t, w)
			} else {
				due(t, w, now)
				holds(t, w, entry{m, tick})
			}
		}
		w := filled(entry{m, tick})
		if tick > math.MinInt64 {
			due(t, w, tick-1)
		}
		holds(t, w, entry{m, tick})
		due(t, w, tick, m)
	}
}

// P8.1: Cancel of no timer, and of timers that aren't armed, changes nothing; of one that is armed it takes this one alone.
func TestCancel(t *testing.T) {
	m := some()
	for i := range m {
		w := filled(at(4, m...)...)
		cancels(t, w, 0)
		cancels(t, w, 0, strays()...)
		lacks(t, w, strays()...)
		holds(t, w, at(4, m...)...)
		cancels(t, w, 1, m[i])
		rest := slices.Delete(slices.Clone(m), i, i+1)
		holds(t, w, at(4, rest...)...)
		cancels(t, w, 0, m[i])
		holds(t, w, at(4, rest...)...)
		due(t, w, 4, rest...)
		cancels(t, w, 0, m...)
	}
}

// P8.1: of several timers those that are armed are counted, each of them once, however often and in whatever order they are handed over.
func TestCancelSeveral(t *testing.T) {
	m := some()
	probe.Turns([]int{0, 1, 2, 3, 4}, func(order []int) {
		w := filled(entry{m[0], 2}, entry{m[1], -3}, entry{m[2], 9}, entry{m[5], 1})
		var list []api.Timer
		for _, i := range order {
			list = append(list, m[i])
		}
		cancels(t, w, 3, list...)
		holds(t, w, entry{m[5], 1})
	})
	w := filled(at(4, m[:4]...)...)
	cancels(t, w, 1, m[0], m[0])
	cancels(t, w, 2, m[2], m[0], m[1], m[2], m[6], m[6], m[1])
	holds(t, w, entry{m[3], 4})
	cancels(t, w, 1, m...)
	holds(t, w)
	w.Arm(5, m...)
	cancels(t, w, len(m), append(m, m...)...)
	holds(t, w)
}

// P8.1: Cancel of timers that were cancelled, due or dropped answers 0, and At of them false.
func TestCancelOfGone(t *testing.T) {
	a, b, c, d := api.Timer{Kind: 1, Lan: 0}, api.Timer{Kind: 2, Lan: 1}, api.Timer{Kind: 3, Lan: 2}, api.Timer{Kind: 4, Lan: 3}
	w := filled(entry{a, 9}, entry{b, 1}, entry{c, 9}, entry{d, 8})
	cancels(t, w, 1, a)
	due(t, w, 1, b)
	drops(t, w, 2, 1)
	cancels(t, w, 0, a)
	cancels(t, w, 0, b)
	cancels(t, w, 0, c)
	lacks(t, w, a, b, c)
	holds(t, w, entry{d, 8})
	cancels(t, w, 1, a, b, c, d)
	holds(t, w)
}

// P8.1: At tells the tick for which a timer is armed, and changes nothing; 0 is a tick as any other.
func TestAt(t *testing.T) {
	m := some()
	for _, tick := range ends() {
		w := filled(entry{m[0], tick}, entry{m[1], 0})
		for range 3 {
			holds(t, w, entry{m[0], tick}, entry{m[1], 0})
			lacks(t, w, m[2:]...)
		}
		due(t, w, math.MaxInt64, inOrder(entry{m[0], tick}, entry{m[1], 0})...)
		lacks(t, w, m...)
	}
}

// P8.1: the chapter's example, and a Due at an earlier tick behind a later one.
func TestDue(t *testing.T) {
	m := some()
	w := New()
	w.Arm(5, m[1], m[0])
	due(t, w, 4)
	holds(t, w, at(5, m[:2]...)...)
	due(t, w, 5, m[0], m[1])
	due(t, w, 6)
	w = filled(entry{m[0], 9}, entry{m[1], 5}, entry{m[2], 2}, entry{m[3], 7})
	due(t, w, 6, m[2], m[1])
	due(t, w, 3)
	holds(t, w, entry{m[0], 9}, entry{m[3], 7})
	w.Arm(4, m[2])
	due(t, w, 3)
	due(t, w, 4, m[2])
	// A tick that has gone by is as good as any other.
	w.Arm(-2, m[4])
	due(t, w, -3)
	due(t, w, 0, m[4])
	due(t, w, 6)
	due(t, w, 7, m[3])
	due(t, w, 100, m[0])
	holds(t, w)
}

// P8.1: of timers that are armed for several ticks those of now and ahead are due, those behind stay.
func TestDueOfSeveralTicks(t *testing.T) {
	m := some()
	for now := -2; now <= 9; now++ {
		var list []entry
		for i, one := range m {
			list = append(list, entry{one, i - 1})
		}
		w := filled(list...)
		n := min(max(now+2, 0), len(m))
		due(t, w, now, m[:n]...)
		holds(t, w, list[n:]...)
		due(t, w, now-1)
		due(t, w, 9, m[n:]...)
		// The later ones come first by Kind, so that it is the tick that tells.
		for i, one := range m {
			list[i] = entry{one, 5 - i}
		}
		w = filled(list...)
		n = len(m) - n
		want := slices.Clone(m[n:])
		slices.Reverse(want)
		due(t, w, now, want...)
		holds(t, w, list[:n]...)
	}
}

// P8.1: each call tells all that are due, however many there are.
func TestDueWhole(t *testing.T) {
	var want []api.Timer
	for kind := 1; kind <= 5; kind++ {
		for lan := range 4 {
			for id := range 16 {
				want = append(want, timer([6]int{kind, lan, id, 0, 0, 0}))
			}
		}
	}
	w := New()
	for i := range want {
		w.Arm(3, want[i*7%len(want)])
	}
	holds(t, w, at(3, want...)...)
	due(t, w, 2)
	due(t, w, 3, want...)
	holds(t, w)
	w.Arm(3, want...)
	drops(t, w, 2, 80)
	drops(t, w, 2, 0)
	cancels(t, w, 240, want...)
	holds(t, w)
}

// ahead holds that of two timers of one tick the first one is due ahead of the second one, whatever the order of Arms.
func ahead(t *testing.T, tick int, a, b api.Timer) {
	t.Helper()
	for _, list := range [][]api.Timer{{a, b}, {b, a}} {
		due(t, filled(at(tick, list...)...), tick, a, b)
		w := New()
		w.Arm(tick, list...)
		due(t, w, tick, a, b)
		w = filled(entry{list[0], tick - 1}, entry{list[1], tick + 1})
		w.Arm(tick, list...)
		due(t, w, tick, a, b)
	}
}

// pairs answers numbers of which the first is below the second one.
func pairs() [][2]int {
	return [][2]int{{0, 1}, {1, 2}, {2, 10}, {9, 10}, {-1, 0}, {-2, -1}, {-10, -9}, {-10, -2}, {-3, 2}, {1, 1 << 32}, {-1 << 32, -1}, {math.MinInt64, math.MaxInt64}, {math.MinInt64, 1}, {-2, math.MaxInt64}}
}

// P8.1: timers of one tick that differ in one number alone are due in the order of that number, negative ones and the ends of int included.
func TestDueByEach(t *testing.T) {
	for place := range 6 {
		for _, p := range pairs() {
			for _, all := range []int{0, 3, -3} {
				a, b := [6]int{all, all, all, all, all, all}, [6]int{all, all, all, all, all, all}
				a[place], b[place] = p[0], p[1]
				ahead(t, 5, timer(a), timer(b))
			}
		}
	}
}

// P8.1: where an earlier number says otherwise than later ones, the earlier one tells, with negative numbers, too.
func TestDueByTheEarlier(t *testing.T) {
	for place := range 6 {
		for later := place + 1; later < 6; later++ {
			for _, p := range pairs() {
				for _, q := range pairs() {
					var a, b [6]int
					a[place], b[place] = p[0], p[1]
					a[later], b[later] = q[1], q[0]
					ahead(t, -4, timer(a), timer(b))
				}
			}
		}
		for _, p := range pairs() {
			a, b := [6]int{9, 9, 9, 9, 9, 9}, [6]int{9, 9, 9, 9, 9, 9}
			a[place], b[place] = p[0], p[1]
			for later := place + 1; later < 6; later++ {
				a[later], b[later] = 7, -7
			}
			ahead(t, 5, timer(a), timer(b))
		}
	}
}

// P8.1: the tick tells ahead of all numbers.
func TestDueByTick(t *testing.T) {
	for _, p := range pairs() {
		for place := range 6 {
			for _, q := range pairs() {
				var a, b [6]int
				a[place], b[place] = q[1], q[0]
				due(t, filled(entry{timer(a), p[0]}, entry{timer(b), p[1]}), p[1], timer(a), timer(b))
				due(t, filled(entry{timer(b), p[1]}, entry{timer(a), p[0]}), math.MaxInt64, timer(a), timer(b))
			}
		}
		due(t, filled(entry{timer([6]int{9, 9, 9, 9, 9, 9}), p[0]}, entry{timer([6]int{}), p[1]}), p[1], timer([6]int{9, 9, 9, 9, 9, 9}), timer([6]int{}))
	}
}

// P8.1: they are due in order, whatever the order of Arms.
func TestDueInAnyTurn(t *testing.T) {
	want := []entry{
		{timer([6]int{4, 1, 1, 1, 1, 1}), -2}, {timer([6]int{-1, 9, 9, 9, 9, 9}), 3}, {timer([6]int{2, -5, 9, 9, 9, 9}), 3},
		{timer([6]int{2, 3, 7, 9, 9, 9}), 3}, {timer([6]int{2, 3, 15, 1, 9, 9}), 3}, {timer([6]int{2, 3, 15, 1, 10, 2}), 3}, {timer([6]int{2, 3, 15, 1, 10, 4}), 3},
	}
	var timers []api.Timer
	for _, e := range want {
		timers = append(timers, e.timer)
	}
	probe.Turns(slices.Clone(want), func(list []entry) {
		w := filled(list...)
		holds(t, w, want...)
		due(t, w, 3, timers...)
	})
	all := some()
	probe.Turns(slices.Clone(all), func(list []api.Timer) {
		w := New()
		w.Arm(8, list...)
		due(t, w, 8, all...)
	})
}

// P8.1: timers that differ in one number alone are others, to Arm, Cancel, At and Due.
func TestTimersApart(t *testing.T) {
	for place := range 6 {
		for _, p := range pairs() {
			x, y := [6]int{2, 2, 2, 2, 2, 2}, [6]int{2, 2, 2, 2, 2, 2}
			x[place], y[place] = p[0], p[1]
			a, b := timer(x), timer(y)
			w := filled(entry{a, 4})
			holds(t, w, entry{a, 4})
			lacks(t, w, b)
			w.Arm(6, b)
			holds(t, w, entry{a, 4}, entry{b, 6})
			cancels(t, w, 1, a)
			holds(t, w, entry{b, 6})
			w.Arm(9, a)
			holds(t, w, entry{a, 9}, entry{b, 6})
			due(t, w, 6, b)
			holds(t, w, entry{a, 9})
		}
	}
}

// P8.1: Drop takes the timers of a network, of whatever else and for whatever tick, and those alone; again it takes none.
func TestDrop(t *testing.T) {
	var all []entry
	for lan := -2; lan <= 4; lan++ {
		for i := range lan + 3 {
			all = append(all, entry{api.Timer{Kind: 1 + i, Lan: lan, Id: (lan + 5) % 3, Key: api.Key{Kind: lan, Id: 3 - lan, Adv: 2}}, 9 - i*5})
		}
	}
	for lan := range 5 {
		w := filled(all...)
		drops(t, w, lan, lan+3)
		var rest []entry
		for _, e := range all {
			if e.timer.Lan != lan {
				rest = append(rest, e)
			} else {
				lacks(t, w, e.timer)
			}
		}
		holds(t, w, rest...)
		drops(t, w, lan, 0)
		holds(t, w, rest...)
		due(t, w, 9, inOrder(rest...)...)
	}
	// What a timer is of, Id and Key don't tell.
	w := filled(at(3, timer([6]int{2, 1, 2, 2, 2, 2}))...)
	drops(t, w, 2, 0)
	holds(t, w, at(3, timer([6]int{2, 1, 2, 2, 2, 2}))...)
	drops(t, w, 1, 1)
	holds(t, w)
}

// P8.1: timers with a Lan below 0 are of no network, and stay; a network that has none drops none.
func TestDropOfNone(t *testing.T) {
	var list []entry
	for i, lan := range []int{math.MinInt64, -1 << 32, -15, -2, -1, 1, 2} {
		list = append(list, entry{api.Timer{Kind: 1, Lan: lan, Id: i}, i})
	}
	w := filled(list...)
	for _, lan := range []int{math.MinInt64, math.MinInt64 + 1, -1 << 32, -16, -15, -2, -1, 0, 3, 4, 15, 16, 17, 1 << 32, 1<<32 + 1, math.MaxInt64} {
		drops(t, w, lan, 0)
		holds(t, w, list...)
	}
	drops(t, w, 1, 1)
	drops(t, w, -1, 0)
	drops(t, w, 2, 1)
	drops(t, w, -1, 0)
	holds(t, w, list[:5]...)
	due(t, w, 9, list[0].timer, list[1].timer, list[2].timer, list[3].timer, list[4].timer)
}

// P8.1, R1: of a nil Wheel nothing is answered, whatever it is given, and Arm leaves it so.
func TestNil(t *testing.T) {
	var w *Wheel
	for _, n := range ends() {
		w.Arm(n)
		w.Arm(n, some()...)
		w.Arm(n, strays()...)
		holds(t, w)
		lacks(t, w, append(some(), strays()...)...)
		cancels(t, w, 0)
		cancels(t, w, 0, append(some(), some()...)...)
		due(t, w, n)
		drops(t, w, n, 0)
	}
	drops(t, w, 2, 0)
	if got := w.Due(math.MaxInt64); len(got) != 0 || w.Len() != 0 {
		t.Errorf("of nil: %v, %d", got, w.Len())
	}
	holds(t, New())
}

// R4: the timers that are handed over stay as they were, spare room included, and what is done to them behind the call changes nothing of the wheel.
func TestTimersStayAsTheyWere(t *testing.T) {
	mark := api.Timer{Kind: 9, Lan: 9, Id: 9}
	back := some()
	slices.Reverse(back)
	for _, list := range [][]api.Timer{nil, some(), back, append(some(), back...)} {
		for _, w := range []*Wheel{nil, New(), filled(entry{back[0], 2}, entry{mark, 2}), filled(at(2, some()...)...)} {
			given, whole := probe.Roomy(list, 5, mark)
			was := slices.Clone(whole)
			w.Arm(4, given...)
			got := w.Due(4)
			probe.Scribble(got, api.Timer{Id: -1})
			w.Arm(4, given...)
			w.Arm(6, given...)
			w.Cancel(given...)
			w.Drop(0)
			w.Due(9)
			if !slices.Equal(whole, was) {
				t.Errorf("%v changed: %v", was, whole)
			}
		}
		given, whole := probe.Roomy(list, 5, mark)
		w := New()
		w.Arm(4, given...)
		probe.Scribble(whole, api.Timer{Id: -1})
		want := some()[:min(len(list), len(back))]
		holds(t, w, at(4, want...)...)
		lacks(t, w, mark, api.Timer{Id: -1})
		due(t, w, 4, want...)
		given, whole = probe.Roomy(list, 5, mark)
		w.Arm(4, some()...)
		n := w.Cancel(given...)
		probe.Scribble(whole, some()[0])
		if n != len(want) {
			t.Errorf("Cancel: %d, want %d", n, len(want))
		}
		due(t, w, 4, some()[n:]...)
	}
}

// R4: what Due answers shares memory with no other answer, spare room included, however many timers they tell.
func TestDueIsNewMemory(t *testing.T) {
	m := append(some(), strays()...)
	mark := api.Timer{Kind: -9}
	for n := range len(m) + 1 {
		for more := n; more <= len(m); more++ {
			w := New()
			w.Arm(1, m[:n]...)
			w.Arm(2, m[n:more]...)
			w.Arm(3, m[more:]...)
			first := w.Due(1)
			was := slices.Clone(first)
			probe.Scribble(first[len(first):], mark)
			second := w.Due(2)
			then := slices.Clone(second)
			probe.Scribble(second[len(second):], mark)
			if !slices.Equal(first, was) || len(first) != n || len(second) != more-n {
				t.Errorf("%v, then %v and %v", was, first, second)
			}
			probe.Scribble(first, mark)
			if !slices.Equal(second, then) {
				t.Errorf("two answers share memory: %v, then %v", then, second)
			}
			probe.Scribble(second, mark)
			holds(t, w, at(3, m[more:]...)...)
			lacks(t, w, mark)
			due(t, w, 3, inOrder(at(3, m[more:]...)...)...)
		}
	}
}

// R4: what Due answered isn't changed by later calls, and what is done to it changes nothing of the wheel, to which it may be handed back.
func TestDueIsNobodyElses(t *testing.T) {
	m := some()
	mark := api.Timer{Kind: -9}
	w := filled(at(5, m...)...)
	first := w.Due(5)
	w.Arm(5, m[6], m[0])
	w.Cancel(first...)
	w.Arm(7, first...)
	second := w.Due(7)
	w.Arm(7, mark)
	w.Due(7)
	if !slices.Equal(first, m) || !slices.Equal(second, m) {
		t.Errorf("an answer changed: %v, %v", first, second)
	}
	w.Arm(1, first...)
	probe.Scribble(first, mark)
	holds(t, w, at(1, m...)...)
	lacks(t, w, mark)
	due(t, w, 1, second...)
}

// R5: wheels have nothing in common; those to which the same is done answer the same, whatever else was made.
func TestWheelsApart(t *testing.T) {
	m := some()
	for turn := range 20 {
		v, w := New(), New()
		v.Arm(4, m...)
		holds(t, w)
		lacks(t, w, m...)
		w.Arm(turn, m[0], m[3])
		due(t, v, 4, m...)
		holds(t, w, at(turn, m[0], m[3])...)
		v.Arm(9, m[3], m[1])
		cancels(t, w, 1, m[3], m[1])
		holds(t, v, at(9, m[1], m[3])...)
		drops(t, v, 2, 2)
		holds(t, w, entry{m[0], turn})
		drops(t, v, 0, 0)
		due(t, w, turn, m[0])
	}
}

// inOrder answers the timers of entries in the order in which they are due, found by looking for the least one again and again.
func inOrder(list ...entry) []api.Timer {
	list = slices.Clone(list)
	var out []api.Timer
	for len(list) > 0 {
		least := 0
		for i := range list {
			if slices.Compare(numbers(list[i]), numbers(list[least])) < 0 {
				least = i
			}
		}
		out = append(out, list[least].timer)
		list = slices.Delete(list, least, least+1)
	}
	return out
}

// numbers answers what tells the order of an entry, from the first that does to the last.
func numbers(e entry) []int {
	t := e.timer
	return []int{e.tick, t.Kind, t.Lan, t.Id, t.Key.Kind, t.Key.Id, t.Key.Adv}
}

// slow is a wheel as a list that is looked through.
type slow struct{ list []entry }

// take answers the entries of whose timers, or ticks, this is so, in order; they are there no more.
func (s *slow) take(so func(entry) bool) []api.Timer {
	var out, rest []entry
	for _, e := range s.list {
		if so(e) {
			out = append(out, e)
		} else {
			rest = append(rest, e)
		}
	}
	s.list = rest
	return inOrder(out...)
}

// cancel does what Cancel does.
func (s *slow) cancel(timers ...api.Timer) int {
	return len(s.take(func(e entry) bool { return slices.Contains(timers, e.timer) }))
}

// arm does what Arm does.
func (s *slow) arm(tick int, timers ...api.Timer) {
	for _, m := range timers {
		s.cancel(m)
		s.list = append(s.list, entry{m, tick})
	}
}

// mixed answers up to three timers of a few, and a tick, made of seven bytes.
func mixed(b []byte) (list []api.Timer, tick int) {
	for i := range int(b[0]) % 4 {
		x := int(b[1+i])
		list = append(list, timer([6]int{x%3 - 1, x/3%3 - 1, x / 9 % 2, x / 18 % 2, -(x / 36 % 2), x / 72 % 2}))
	}
	return list, int(b[4])%9 - 3
}

// step does one call to a wheel, and to a list, and holds the answers against each other.
func step(t *testing.T, w *Wheel, s *slow, what byte, list []api.Timer, tick int) {
	t.Helper()
	switch what % 8 {
	case 0:
		if got, want := w.Cancel(list...), s.cancel(list...); got != want {
			t.Errorf("Cancel(%v): %d, want %d", list, got, want)
		}
	case 1:
		got, want := w.Drop(tick), s.take(func(e entry) bool { return tick >= 0 && e.timer.Lan == tick })
		if got != len(want) {
			t.Errorf("Drop(%d): %d, want %d", tick, got, len(want))
		}
	case 2:
		got, want := w.Due(tick), s.take(func(e entry) bool { return e.tick <= tick })
		if !slices.Equal(got, want) {
			t.Errorf("Due(%d): %v, want %v", tick, got, want)
		}
	default:
		w.Arm(tick, list...)
		s.arm(tick, list...)
	}
	holds(t, w, s.list...)
	for _, m := range list {
		if !slices.ContainsFunc(s.list, func(e entry) bool { return e.timer == m }) {
			lacks(t, w, m)
		}
	}
}

// P8.1, R1, R5: through many calls, one behind the other, two wheels answer what a plain list would answer.
func TestManyCalls(t *testing.T) {
	for seed := range 80 {
		v, w, r, s := New(), New(), &slow{}, &slow{}
		m := probe.Mixed(2100, seed)
		for i := 0; i+7 <= len(m); i += 7 {
			list, tick := mixed(m[i:])
			step(t, v, r, m[i+5], list, tick)
			if i%3 == 0 {
				w.Arm(tick, list...)
				s.arm(tick, list...)
			}
			step(t, w, s, m[i+6], list, -tick)
		}
		if t.Failed() {
			t.Fatalf("seed %d", seed)
		}
		due(t, v, math.MaxInt64, inOrder(r.list...)...)
		due(t, w, math.MaxInt64, inOrder(s.list...)...)
	}
}
