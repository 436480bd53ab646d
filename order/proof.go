package order

import (
	"bytes"

	"amnesty/api"
)

// Prove returns a proof that a key is there with its value, or that it is not there.
func (m *Map) Prove(key []byte) []api.Side {
	var steps []api.Side
	for n := m.root(); n != nil; n = n.toward(key) {
		steps = append(steps, api.Side{Key: bytes.Clone(n.key), Value: bytes.Clone(n.value), Left: digestOf(n.left), Right: digestOf(n.right)})
		if bytes.Equal(key, n.key) {
			break
		}
	}
	return steps
}

// Check returns what a proof shows of a key in a map with a digest: its value, or that it is not there.
func Check(seed, digest uint64, key []byte, proof []api.Side) (value []byte, there bool, err api.Errno) {
	if len(proof) > api.MaxPairs {
		return nil, false, api.ErrForm
	}
	for i, s := range proof {
		if !allowed(len(s.Key), len(s.Value)) || sideDigest(seed, s) != digest {
			return nil, false, api.ErrForm
		}
		if bytes.Equal(key, s.Key) {
			if i < len(proof)-1 {
				return nil, false, api.ErrForm
			}
			return bytes.Clone(s.Value), true, api.OK
		}
		digest = leadsTo(s, key)
	}
	// Now it is the digest on the side of the key, below which no step stands: that of no node. (Of no steps it is the digest of the map.)
	if digest != 0 {
		return nil, false, api.ErrForm
	}
	return nil, false, api.OK
}

// leadsTo returns the digest that a step has on the side to which a key leads.
func leadsTo(s api.Side, key []byte) uint64 {
	if bytes.Compare(key, s.Key) < 0 {
		return s.Left
	}
	return s.Right
}
