package keys

import (
	"cmp"
	"math"
	"testing"

	"syndic/api"
)

// rising answers keys in order, told one by one; each number's ends are among them.
func rising() []api.Key {
	return []api.Key{
		{Kind: math.MinInt64, Id: math.MaxInt64, Adv: math.MaxInt64},
		{Kind: -1, Id: 9, Adv: 9},
		{},
		{Adv: 1},
		{Id: 1},
		{Kind: 1, Id: math.MinInt64, Adv: 15},
		{Kind: 1, Id: -2, Adv: 15},
		{Kind: 1, Id: 1, Adv: 1},
		{Kind: 1, Id: 2, Adv: math.MinInt64},
		{Kind: 1, Id: 2, Adv: -3},
		{Kind: 1, Id: 2, Adv: 1},
		{Kind: 1, Id: 2, Adv: 2},
		{Kind: 1, Id: 2, Adv: 10},
		{Kind: 1, Id: 2, Adv: math.MaxInt64},
		{Kind: 1, Id: 10, Adv: 1},
		{Kind: 1, Id: math.MaxInt64, Adv: 0},
		{Kind: 2, Id: 0, Adv: 15},
		{Kind: 2, Id: 1, Adv: 1},
		{Kind: 2, Id: 1, Adv: 1 << 32},
		{Kind: 10, Id: 0, Adv: 0},
		{Kind: math.MaxInt64, Id: math.MinInt64, Adv: math.MinInt64},
	}
}

// P7.1: keys are in the order of Kind, then Id, then Adv, as numbers.
func TestCompare(t *testing.T) {
	l := rising()
	for i, a := range l {
		for j, b := range l {
			if got := Compare(a, b); got != cmp.Compare(i, j) {
				t.Errorf("Compare(%v, %v) = %d, want %d", a, b, got, cmp.Compare(i, j))
			}
		}
	}
}

// P7.1: heads are in the order of their keys, whatever else they have.
func TestCompareHeads(t *testing.T) {
	l := rising()
	for i, a := range l {
		for j, b := range l {
			h := api.Head{Age: j, Kind: a.Kind, Id: a.Id, Adv: a.Adv, Seq: j, Sum: j, Long: j}
			g := api.Head{Age: i, Kind: b.Kind, Id: b.Id, Adv: b.Adv, Seq: i, Sum: i, Long: i}
			if got := CompareHeads(h, g); got != cmp.Compare(i, j) {
				t.Errorf("CompareHeads(%v, %v) = %d, want %d", h, g, got, cmp.Compare(i, j))
			}
		}
	}
}
