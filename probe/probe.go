// Package probe is for the tests alone: lists by which a test sees whether a call writes to memory that isn't its own, or hands out memory that it needs, and bytes to try calls on.
package probe

// Roomy answers the items as a list with so much spare room, filled with mark, and the whole of that list's memory.
func Roomy[T any](items []T, spare int, mark T) (list, whole []T) {
	whole = make([]T, 0, len(items)+spare)
	whole = append(whole, items...)
	for range spare {
		whole = append(whole, mark)
	}
	return whole[:len(items)], whole
}

// Scribble writes mark all over a list, its spare room included.
func Scribble[T any](list []T, mark T) {
	list = list[:cap(list)]
	for i := range list {
		list[i] = mark
	}
}

// Mixed answers n bytes that follow each other without a plain rule, always the same ones for the same seed.
func Mixed(n, seed int) []byte {
	b := make([]byte, n)
	x := uint32(seed)*2654435761 + 1
	for i := range b {
		x = x*1664525 + 1013904223
		b[i] = byte(x >> 24)
	}
	return b
}
