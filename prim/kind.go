package prim

import (
	"quire/api"
)

// kinds is one kind of values, or several.
type kinds int

const (
	numbers kinds = 1 << iota
	texts
	flags
	lists
	quots
	boxes

	rows = texts | lists // what has characters or values in a row
	all  = numbers | flags | rows | quots | boxes
)

func kindOf(v api.Value) kinds {
	switch v.(type) {
	case api.Int:
		return numbers
	case api.Str:
		return texts
	case api.Bool:
		return flags
	case api.List:
		return lists
	case api.Quot:
		return quots
	case api.Box:
		return boxes
	}
	return 0
}

// fit answers whether values are of the kinds that are wanted, one by one.
func fit(args []api.Value, takes []kinds) bool {
	for i, v := range args {
		if kindOf(v)&takes[i] == 0 {
			return false
		}
	}
	return true
}

// wanted answers for a primitive of the table the kinds of the values that it takes, the top one last.
func wanted(name string) ([]kinds, bool) {
	switch name {
	case "dup", "drop", "int?", "str?", "bool?", "list?", "quot?", "box?", "wrap", ">str":
		return []kinds{all}, true
	case "swap", "over", "nip", "tuck", "=", "pair":
		return []kinds{all, all}, true
	case "rot":
		return []kinds{all, all, all}, true
	case "neg", "abs":
		return []kinds{numbers}, true
	case "+", "-", "*", "/", "mod", "min", "max", "<", ">":
		return []kinds{numbers, numbers}, true
	case "not":
		return []kinds{flags}, true
	case "and", "or":
		return []kinds{flags, flags}, true
	case "length":
		return []kinds{rows | quots}, true
	case "append":
		return []kinds{rows | quots, rows | quots}, true
	case "nth":
		return []kinds{numbers, rows}, true
	case "slice":
		return []kinds{numbers, numbers, rows}, true
	case "unpair":
		return []kinds{lists}, true
	case "reverse":
		return []kinds{rows}, true
	case "curry":
		return []kinds{all, quots}, true
	case "compose":
		return []kinds{quots, quots}, true
	case ">int":
		return []kinds{texts}, true
	}
	return nil, false
}

// askedFor answers the kind that a word such as int? asks for.
func askedFor(name string) kinds {
	switch name {
	case "int?":
		return numbers
	case "str?":
		return texts
	case "bool?":
		return flags
	case "list?":
		return lists
	case "quot?":
		return quots
	case "box?":
		return boxes
	}
	return 0
}

// These take what a value holds, whose kind is known.

func number(v api.Value) int64 { return v.(api.Int).N }

func text(v api.Value) string { return v.(api.Str).S }

func flag(v api.Value) bool { return v.(api.Bool).B }

func list(v api.Value) []api.Value { return v.(api.List).Items }

func items(v api.Value) []api.Item { return v.(api.Quot).Items }
