package keep

import (
	"slices"
	"strconv"
	"strings"

	"amnesty/api"
)

// Where the parts of a value of the store's map begin.
const (
	xAt       = 0
	yAt       = 2
	labelAt   = 4
	dueAt     = 5
	countAt   = 6 // how many holders there are
	holdersAt = 7
)

// record is a record. It keeps its holders in order, each once.
type record struct {
	key         string
	x, y, label int
	due         bool
	holders     []string
	text        string
}

// value returns the value that a record has in the store's map.
func (r record) value() []byte {
	value := appendBig(nil, r.x, yAt-xAt)
	value = appendBig(value, r.y, labelAt-yAt)
	value = append(value, byte(r.label), 0, byte(len(r.holders)))
	if r.due {
		value[dueAt] = 1
	}
	for _, holder := range r.holders {
		value = append(value, byte(len(holder)))
		value = append(value, holder...)
	}
	return append(value, r.text...)
}

// recordOf returns the record of a pair; it is not ok if the pair is none that the store's map may have.
func recordOf(key, value []byte) (r record, ok bool) {
	if len(value) < holdersAt || value[dueAt] > 1 {
		return record{}, false
	}
	holders, text, ok := cutHolders(value[holdersAt:], int(value[countAt]))
	if !ok {
		return record{}, false
	}
	r = record{
		key:     string(key),
		x:       int(big(value[xAt:yAt])),
		y:       int(big(value[yAt:labelAt])),
		label:   int(value[labelAt]),
		due:     value[dueAt] == 1,
		holders: holders,
		text:    text,
	}
	if !r.allowed() {
		return record{}, false
	}
	return r, true
}

// cutHolders returns so many holders, and the text that follows them; it is not ok if the bytes end too early.
func cutHolders(rest []byte, count int) (holders []string, text string, ok bool) {
	for range count {
		if len(rest) == 0 || int(rest[0]) >= len(rest) {
			return nil, "", false
		}
		end := 1 + int(rest[0])
		holders = append(holders, string(rest[1:end]))
		rest = rest[end:]
	}
	return holders, string(rest), true
}

// allowed reports whether a store may have a record whose numbers are not negative.
func (r record) allowed() bool {
	return isName(r.key) && r.x <= api.MaxX && r.y <= api.MaxX && r.label < api.Labels && isText(r.text) &&
		areHolders(r.holders) && (!r.due || len(r.holders) > 0)
}

// areHolders reports whether a record may have these holders.
func areHolders(names []string) bool {
	for i, name := range names {
		if !isName(name) || i > 0 && names[i-1] >= name {
			return false
		}
	}
	return len(names) <= api.MaxHolds
}

// heldBy reports whether a holder holds the record, and where it stands, or would stand, among the holders.
func (r record) heldBy(holder string) (at int, held bool) {
	return slices.BinarySearch(r.holders, holder)
}

// told returns what is told of a record to someone who gets it.
func (r record) told() string {
	told := spaced(r.x, r.y, r.label) + ` "` + r.text + `"`
	if len(r.holders) > 0 {
		told += " held " + strconv.Itoa(len(r.holders))
	}
	if r.due {
		told += " due"
	}
	return told
}

// isName reports whether a text may be the key of a record, or a holder.
func isName(text string) bool {
	return 1 <= len(text) && len(text) <= api.MaxRecord && strings.Trim(text, "abcdefghijklmnopqrstuvwxyz0123456789") == ""
}

// isText reports whether a text may be that of a record.
func isText(text string) bool {
	return len(text) <= api.MaxWords && isPlain(text) && !strings.ContainsAny(text, `"\`)
}

// isPlain reports whether all bytes are from 32 to 126.
func isPlain(text string) bool {
	return !strings.ContainsFunc(text, func(letter rune) bool { return letter < 32 || letter > 126 })
}

// numberOf returns the number of a key.
func numberOf(key string) uint64 {
	var padded [api.MaxRecord]byte
	copy(padded[:], key)
	return big(padded[:])
}

// keyOf returns the key of a number.
func keyOf(number uint64) string {
	var key []byte
	for ; number != 0; number <<= 8 {
		key = append(key, byte(number>>56))
	}
	return string(key)
}

// appendBig appends a number as so many bytes, the greatest one first.
func appendBig(b []byte, number, size int) []byte {
	for size > 0 {
		size--
		b = append(b, byte(number>>(8*size)))
	}
	return b
}

// big returns the number that some bytes are, the greatest one first.
func big(b []byte) uint64 {
	var number uint64
	for _, c := range b {
		number = number<<8 | uint64(c)
	}
	return number
}
