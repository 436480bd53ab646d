package swap

import (
	"strings"

	"amnesty/api"
	"amnesty/slots"
)

// padMark is the byte ahead of each pad in the vault's table.
const padMark = 1

// Vault keeps pads, by which the records of a backup are sealed.
type Vault struct {
	// The table is embedded one level further in: otherwise all its functions would be a vault's as well.
	pads pads
}

// pads are the pads of a vault, by the names of the records that they seal. Those of a vault that is missing have no table: of a nil one, a table answers all that is asked as an empty one does, and refuses to change.
type pads struct {
	*slots.Table
}

// NewVault returns an empty vault.
func NewVault(seed uint64) *Vault {
	return &Vault{pads{slots.New(seed)}}
}

// Put seals a record with a pad, and returns what goes to the backup.
func (v *Vault) Put(name string, data, pad []byte) (api.Sealed, api.Errno) {
	if !isName(name) || len(data) != len(pad) || len(pad) > api.MaxValue-1 {
		return api.Sealed{}, api.ErrArg
	}
	if err := v.kept().add(name, pad); err != api.OK {
		return api.Sealed{}, err
	}
	return api.Sealed{Name: name, Bytes: xor(data, pad)}, api.OK
}

// Open returns the record of a sealed one.
func (v *Vault) Open(sealed api.Sealed) ([]byte, api.Errno) {
	pad, err := v.kept().find(sealed.Name)
	if err != api.OK {
		return nil, err
	}
	if len(pad) != len(sealed.Bytes) {
		return nil, api.ErrForm
	}
	return xor(sealed.Bytes, pad), api.OK
}

// Forget forgets a pad.
func (v *Vault) Forget(name string) api.Errno {
	return v.kept().Drop([]byte(name))
}

// Image returns the bytes of the vault.
func (v *Vault) Image() []byte {
	return v.kept().Image()
}

// Explain returns the pad by which a record would be sealed to some bytes.
func Explain(sealed api.Sealed, data []byte) ([]byte, api.Errno) {
	if len(data) != len(sealed.Bytes) {
		return nil, api.ErrArg
	}
	return xor(sealed.Bytes, data), api.OK
}

// kept returns the pads of a vault.
func (v *Vault) kept() pads {
	if v == nil {
		return pads{}
	}
	return v.pads
}

// find returns the pad of a name.
func (p pads) find(name string) ([]byte, api.Errno) {
	value, err := p.Get([]byte(name))
	if err != api.OK {
		return nil, err
	}
	return value[1:], api.OK
}

// add adds the pad of a name that has none.
func (p pads) add(name string, pad []byte) api.Errno {
	if _, err := p.find(name); err == api.OK {
		return api.ErrTwice
	}
	return p.Put([]byte(name), append([]byte{padMark}, pad...))
}

// isName reports whether a record may have a name.
func isName(name string) bool {
	return 1 <= len(name) && len(name) <= api.MaxName && strings.Trim(name, "abcdefghijklmnopqrstuvwxyz0123456789-.") == ""
}

// xor returns the bytes of two lists of one length, each xor its counterpart.
func xor(a, b []byte) []byte {
	sum := make([]byte, len(a))
	for i := range a {
		sum[i] = a[i] ^ b[i]
	}
	return sum
}
