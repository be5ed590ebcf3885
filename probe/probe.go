// Package probe is for the tests alone: lists by which a test sees whether a call writes to memory that isn't its own, or hands out memory that it needs, orders in which items may stand, and bytes, keys and descriptions to try calls on.
package probe

import (
	"math"
	"slices"

	"syndic/api"
)

// Roomy answers the items as a list with so much spare room, filled with mark, and the whole of that list's memory.
func Roomy[T any](items []T, spare int, mark T) (list, whole []T) {
	whole = make([]T, 0, len(items)+spare)
	whole = append(whole, items...)
	for range spare {
		whole = append(whole, mark)
	}
	return whole[:len(items)], whole
}

// Scribble writes mark all over a list, its spare room included.
func Scribble[T any](list []T, mark T) {
	list = list[:cap(list)]
	for i := range list {
		list[i] = mark
	}
}

// RoomyLsa answers a description whose lists have spare room, and the whole of their memory.
func RoomyLsa(l api.Lsa) (out api.Lsa, links []api.Link, members []int) {
	out.Head = l.Head
	out.Links, links = Roomy(l.Links, 6, api.Link{Kind: 2, Id: 9, Data: 9, Cost: 9})
	out.Members, members = Roomy(l.Members, 6, 13)
	return out, links, members
}

// RoomyLsas answers descriptions with lists of their own, all with spare room, that of the descriptions filled with mark, the whole of their memory, and a call that tells whether all of it is as it was.
func RoomyLsas(l []api.Lsa, spare int, mark api.Lsa) (list, whole []api.Lsa, held func() bool) {
	var fresh []api.Lsa
	var links [][]api.Link
	var members [][]int
	for i, x := range l {
		x.Links = []api.Link{{Kind: api.Stub, Id: i, Data: i, Cost: 1}}
		x.Members = []int{i, i + 1}
		x, link, member := RoomyLsa(x)
		fresh, links, members = append(fresh, x), append(links, link), append(members, member)
	}
	list, whole = Roomy(fresh, spare, mark)
	was, wasLinks, wasMembers := slices.Clone(whole), slices.Concat(links...), slices.Concat(members...)
	return list, whole, func() bool {
		return slices.EqualFunc(whole, was, same) && slices.Equal(slices.Concat(links...), wasLinks) && slices.Equal(slices.Concat(members...), wasMembers)
	}
}

// same tells whether two descriptions have the same head and the same lists.
func same(a, b api.Lsa) bool {
	return a.Head == b.Head && slices.Equal(a.Links, b.Links) && slices.Equal(a.Members, b.Members)
}

// ScribbleLsa writes all over a description's lists, their spare room included.
func ScribbleLsa(l api.Lsa) {
	Scribble(l.Links, api.Link{Cost: -1})
	Scribble(l.Members, -1)
}

// Turns calls f with each order in which items may stand.
func Turns[T any](items []T, f func([]T)) {
	var from func(at int)
	from = func(at int) {
		if at == len(items) {
			f(items)
			return
		}
		for i := at; i < len(items); i++ {
			items[at], items[i] = items[i], items[at]
			from(at + 1)
			items[at], items[i] = items[i], items[at]
		}
	}
	from(0)
}

// Strewn answers items in an order without a plain rule, another one for each seed.
func Strewn[T any](l []T, seed int) []T {
	l = slices.Clone(l)
	m := Mixed(2*len(l), seed)
	for i := range l {
		j := (int(m[2*i])<<8 | int(m[2*i+1])) % (i + 1)
		l[i], l[j] = l[j], l[i]
	}
	return l
}

// Rising answers n descriptions of keys of their own, in order, none of age 60, each field of whose heads differs from the others'.
func Rising(n int) []api.Lsa {
	var l []api.Lsa
	for i := range n {
		h := api.Head{Age: i % 60, Kind: 1 + i/40, Id: i / 4, Adv: i % 4, Seq: 1000 - i, Sum: 2000 + i, Long: 3000 + i}
		l = append(l, api.Lsa{Head: h})
	}
	return l
}

// Far answers heads of keys of their own, in order, whose numbers are far from each other's, none of age 60; what else they have goes the other way about.
func Far() []api.Head {
	return []api.Head{
		{Kind: math.MinInt64, Id: math.MaxInt64, Adv: 9, Seq: 9},
		{Kind: -1, Id: 3, Adv: 3, Seq: 8},
		{Kind: 1, Id: math.MinInt64, Adv: math.MaxInt64, Seq: 7},
		{Kind: 1, Id: 2, Adv: -2, Age: 59, Seq: 6},
		{Kind: 1, Id: 2, Adv: 2, Age: 40, Seq: 5, Sum: 4},
		{Kind: 1, Id: 2, Adv: 10, Age: 20, Seq: 4, Sum: 3, Long: 36},
		{Kind: 1, Id: 10, Adv: 2, Seq: 3, Long: 24},
		{Kind: 2, Id: 1, Adv: 15, Seq: 2},
		{Kind: 2, Id: 3, Adv: 1, Seq: 1},
		{Kind: 10, Id: 0, Adv: 0},
		{Kind: math.MaxInt64, Id: math.MinInt64, Adv: math.MinInt64, Seq: -1},
	}
}

// HeadsOf answers descriptions' heads.
func HeadsOf(l []api.Lsa) []api.Head {
	var heads []api.Head
	for _, x := range l {
		heads = append(heads, x.Head)
	}
	return heads
}

// KeysOf answers heads' keys.
func KeysOf(heads []api.Head) []api.Key {
	var keys []api.Key
	for _, h := range heads {
		keys = append(keys, api.KeyOf(h))
	}
	return keys
}

// Apart answers keys that differ from one in one field alone.
func Apart(k api.Key) []api.Key {
	var out []api.Key
	for _, by := range []int{-1, 1, 256, 1 << 32, math.MinInt64} {
		out = append(out, api.Key{Kind: k.Kind + by, Id: k.Id, Adv: k.Adv}, api.Key{Kind: k.Kind, Id: k.Id + by, Adv: k.Adv}, api.Key{Kind: k.Kind, Id: k.Id, Adv: k.Adv + by})
	}
	return out
}

// Triples answers the pieces that heads are told in, one without heads, if there are none.
func Triples(heads []api.Head) [][]api.Head {
	out := [][]api.Head{nil}
	for i, h := range heads {
		if i > 0 && i%3 == 0 {
			out = append(out, nil)
		}
		out[len(out)-1] = append(out[len(out)-1], h)
	}
	return out
}

// Mixed answers n bytes that follow each other without a plain rule, always the same ones for the same seed.
func Mixed(n, seed int) []byte {
	b := make([]byte, n)
	x := uint32(seed)*2654435761 + 1
	for i := range b {
		x = x*1664525 + 1013904223
		b[i] = byte(x >> 24)
	}
	return b
}
