package heap

import (
	"quire/api"
)

// The parts of a head: from the lowest bit on the kind, whether the object is raw, and how many fields it has.
const (
	maxKind    = 255
	rawBit     = maxKind + 1
	fieldsFrom = 9
)

// object is an object as it lies in a space: its head, and its fields.
type object []api.Field

// head answers the first word of an object. It is a number as fields are, so that all words of a space can be gone through alike.
func head(kind, n int, raw bool) api.Field {
	w := uint64(n)<<fieldsFrom | uint64(kind)
	if raw {
		w |= rawBit
	}
	return api.Field{N: w}
}

// sizeOf answers how many words an object with this head takes.
func sizeOf(head api.Field) int { return 1 + int(head.N>>fieldsFrom) }

func (o object) kind() int { return int(o[0].N & maxKind) }

func (o object) raw() bool { return o[0].N&rawBit != 0 }

func (o object) fields() []api.Field { return o[1:] }

func (o object) has(f int) bool { return 0 <= f && f < len(o.fields()) }
