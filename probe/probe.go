// Package probe is for the tests alone: lists by which a test sees whether a call writes to memory that isn't its own, or hands out memory that it needs, orders in which items may stand, and bytes to try calls on.
package probe

import "syndic/api"

// Roomy answers the items as a list with so much spare room, filled with mark, and the whole of that list's memory.
func Roomy[T any](items []T, spare int, mark T) (list, whole []T) {
	whole = make([]T, 0, len(items)+spare)
	whole = append(whole, items...)
	for range spare {
		whole = append(whole, mark)
	}
	return whole[:len(items)], whole
}

// Scribble writes mark all over a list, its spare room included.
func Scribble[T any](list []T, mark T) {
	list = list[:cap(list)]
	for i := range list {
		list[i] = mark
	}
}

// RoomyLsa answers a description whose lists have spare room, and the whole of their memory.
func RoomyLsa(l api.Lsa) (out api.Lsa, links []api.Link, members []int) {
	out.Head = l.Head
	out.Links, links = Roomy(l.Links, 6, api.Link{Kind: 2, Id: 9, Data: 9, Cost: 9})
	out.Members, members = Roomy(l.Members, 6, 13)
	return out, links, members
}

// ScribbleLsa writes all over a description's lists, their spare room included.
func ScribbleLsa(l api.Lsa) {
	Scribble(l.Links, api.Link{Cost: -1})
	Scribble(l.Members, -1)
}

// Turns calls f with each order in which items may stand.
func Turns[T any](items []T, f func([]T)) {
	var from func(at int)
	from = func(at int) {
		if at == len(items) {
			f(items)
			return
		}
		for i := at; i < len(items); i++ {
			items[at], items[i] = items[i], items[at]
			from(at + 1)
			items[at], items[i] = items[i], items[at]
		}
	}
	from(0)
}

// Mixed answers n bytes that follow each other without a plain rule, always the same ones for the same seed.
func Mixed(n, seed int) []byte {
	b := make([]byte, n)
	x := uint32(seed)*2654435761 + 1
	for i := range b {
		x = x*1664525 + 1013904223
		b[i] = byte(x >> 24)
	}
	return b
}
