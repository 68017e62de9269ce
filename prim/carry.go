package prim

import (
	"quire/api"
	"quire/cell"
	"quire/lex"
	"quire/value"
)

// carryOut answers what a primitive of the table leaves of args: as many as it takes, of the kinds that it wants. What it leaves may share lists, and may be too large to be sound.
func carryOut(name string, args []api.Value) ([]api.Value, api.Errno) {
	if places, ok := moved(name); ok {
		return at(args, places), api.OK
	}
	if name == "unpair" {
		return unpair(list(args[0]))
	}
	v, e := made(name, args)
	return []api.Value{v}, e
}

// moved answers for a word that moves values the places that those it leaves had, from the lowest on.
func moved(name string) ([]int, bool) {
	switch name {
	case "dup":
		return []int{0, 0}, true
	case "drop":
		return nil, true
	case "swap":
		return []int{1, 0}, true
	case "over":
		return []int{0, 1, 0}, true
	case "rot":
		return []int{1, 2, 0}, true
	case "nip":
		return []int{1}, true
	case "tuck":
		return []int{1, 0, 1}, true
	}
	return nil, false
}

// at answers the values at the given places.
func at(args []api.Value, places []int) []api.Value {
	var left []api.Value
	for _, place := range places {
		left = append(left, args[place])
	}
	return left
}

func unpair(pair []api.Value) ([]api.Value, api.Errno) {
	if len(pair) != 2 {
		return nil, api.ErrRange
	}
	return pair, api.OK
}

// made answers the one value that a primitive leaves, if it neither moves values nor takes them from a list.
func made(name string, args []api.Value) (api.Value, api.Errno) {
	switch name {
	case "+", "-", "*", "/", "mod", "neg", "abs", "min", "max":
		n, e := reckoned(name, number(args[0]), number(args[len(args)-1]))
		return api.Int{N: n}, e
	case "<", ">", "=", "and", "or", "not", "int?", "str?", "bool?", "list?", "quot?", "box?":
		return api.Bool{B: holds(name, args)}, api.OK
	case "length":
		return api.Int{N: length(args[0])}, api.OK
	case "append", "compose":
		return joined(args[0], args[1])
	case "nth":
		return nth(number(args[0]), args[1])
	case "slice":
		return piece(number(args[0]), number(args[1]), args[2])
	case "wrap", "pair":
		return api.List{Items: args}, api.OK
	case "reverse":
		return turned(args[0]), api.OK
	case "curry":
		return joined(api.Quot{Items: []api.Item{api.Push{V: args[0]}}}, args[1])
	case ">str":
		s, e := value.Text(args[0])
		return api.Str{S: s}, e
	case ">int":
		n, e := lex.Number(text(args[0]))
		return api.Int{N: n}, e
	}
	return nil, api.ErrName
}

// reckoned answers what a word of numbers makes of n and m, which are one, if it takes one.
func reckoned(name string, n, m int64) (int64, api.Errno) {
	switch name {
	case "+", "-", "*", "/":
		return cell.Arith(name[0], n, m)
	case "mod":
		return cell.Arith('%', n, m)
	case "neg":
		return cell.Arith('-', 0, n)
	case "abs":
		if n < 0 {
			return cell.Arith('-', 0, n)
		}
		return n, api.OK
	case "min":
		return min(n, m), api.OK
	case "max":
		return max(n, m), api.OK
	}
	return 0, api.ErrName
}

// holds answers the flag that a word leaves.
func holds(name string, args []api.Value) bool {
	switch name {
	case "<":
		return number(args[0]) < number(args[1])
	case ">":
		return number(args[0]) > number(args[1])
	case "=":
		same, _ := value.Equal(args[0], args[1])
		return same
	case "and":
		return flag(args[0]) && flag(args[1])
	case "or":
		return flag(args[0]) || flag(args[1])
	case "not":
		return !flag(args[0])
	}
	return kindOf(args[0]) == askedFor(name)
}
