package parse

import (
	"quire/lex"
)

// The reserved words.
const (
	define      = ":"
	endDefine   = ";"
	openEffect  = "("
	middle      = "--"
	closeEffect = ")"
	openQuot    = "["
	closeQuot   = "]"
	openList    = "{"
	closeList   = "}"
	yes         = "t"
	no          = "f"
)

func reserved(word string) bool {
	switch word {
	case define, endDefine, openEffect, middle, closeEffect, openQuot, closeQuot, openList, closeList, yes, no:
		return true
	}
	return false
}

// callable answers whether s is the name of a word that can be called or defined.
func callable(s string) bool { return lex.Name(s) && !reserved(s) }
