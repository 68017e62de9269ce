package interp

import (
	"quire/api"
)

// kind is what kind a value has to be that a word takes.
type kind int

const (
	anything kind = iota
	numbers
	flags
	lists
	quots
	boxes
)

// fits answers whether v is of a kind.
func (k kind) fits(v api.Value) bool {
	return k == anything || k == kindOf(v)
}

// kindOf answers the kind of a value, or anything, if no word asks for it.
func kindOf(v api.Value) kind {
	switch v.(type) {
	case api.Int:
		return numbers
	case api.Bool:
		return flags
	case api.List:
		return lists
	case api.Quot:
		return quots
	case api.Box:
		return boxes
	}
	return anything
}

// These take what a value holds, whose kind is known.

func number(v api.Value) int64 { return v.(api.Int).N }

func flag(v api.Value) bool { return v.(api.Bool).B }

func list(v api.Value) []api.Value { return v.(api.List).Items }

func quotation(v api.Value) []api.Item { return v.(api.Quot).Items }

func boxNumber(v api.Value) int { return v.(api.Box).N }
