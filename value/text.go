package value

import (
	"quire/api"
	"quire/parse"
)

// addWords puts the words of a sound value's text behind others.
func addWords(words []string, v api.Value) []string {
	if list, ok := v.(api.List); ok {
		words = append(words, "{")
		for _, part := range list.Items {
			words = addWords(words, part)
		}
		return append(words, "}")
	}
	if quot, ok := v.(api.Quot); ok {
		words = append(words, "[")
		for _, item := range quot.Items {
			words = addItemWords(words, item)
		}
		return append(words, "]")
	}
	if _, ok := v.(api.Box); ok {
		return append(words, "box")
	}
	return append(words, word(api.Push{V: v}))
}

func addItemWords(words []string, item api.Item) []string {
	if push, ok := item.(api.Push); ok {
		return addWords(words, push.V)
	}
	return append(words, word(item))
}

// word answers the text of a sound item that holds no others and no box. It is far from too large for the writer of sources.
func word(item api.Item) string {
	text, _ := parse.Text([]api.Item{item})
	return text
}
