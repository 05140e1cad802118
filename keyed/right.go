package keyed

import "hardtack/api"

// keySize is how many bytes sip asks of a key.
const keySize = 16

// pair is what no two entries may have alike.
type pair struct{ key, text string }

func Check(h api.Hash) api.Errno {
	if !right(h) {
		return api.ErrForm
	}
	return api.OK
}

func right(h api.Hash) bool {
	if len(h.Table) > api.MaxSums {
		return false
	}
	seen := make(map[pair]struct{}, len(h.Table))
	for _, e := range h.Table {
		if len(e.Key) != keySize {
			return false
		}
		seen[pair{e.Key, e.Text}] = struct{}{}
	}
	return len(seen) == len(h.Table)
}

func Apart(h api.Hash) bool { return right(h) && unlike(h.Table) }

// unlike takes 0 for seen from the beginning on, as it is the sum of whatever has no entry.
func unlike(all []api.Sum) bool {
	seen := map[uint64]struct{}{0: {}}
	for _, e := range all {
		seen[e.N] = struct{}{}
	}
	return len(seen) == 1+len(all)
}
