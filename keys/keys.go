// Package keys is for the layers that tell keys in order: see 'Words' of shared/doc/07-lsdb.md.
package keys

import (
	"cmp"

	"syndic/api"
)

// Compare answers -1, if a is ahead of b in the order of keys (by Kind, then Id, then Adv), 1, if b is ahead of a, 0, if they are the same.
func Compare(a, b api.Key) int {
	return cmp.Or(cmp.Compare(a.Kind, b.Kind), cmp.Compare(a.Id, b.Id), cmp.Compare(a.Adv, b.Adv))
}

// CompareHeads answers the same of two heads' keys.
func CompareHeads(a, b api.Head) int {
	return Compare(api.KeyOf(a), api.KeyOf(b))
}
