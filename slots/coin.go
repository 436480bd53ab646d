// Package slots is layer 1: see shared/doc/01-slots.md.
package slots

// The tags of the coins that a table uses.
const (
	tagHome = 1
	tagRank = 2
)

// Coin returns the coin of some bytes for a seed and a tag.
func Coin(seed uint64, tag int, b []byte) uint64 {
	h := seed + (uint64(tag)+1)*0x9E3779B97F4A7C15
	for _, c := range b {
		h = (h ^ uint64(c)) * 0x100000001B3
	}
	h ^= uint64(len(b))
	h = (h ^ h>>30) * 0xBF58476D1CE4E5B9
	h = (h ^ h>>27) * 0x94D049BB133111EB
	return h ^ h>>31
}
