package value

import (
	"quire/api"
)

// mostParts is how many parts an answer has at most: beyond 2^31 - 1 bytes nothing is promised of one, and a part takes 16 of them.
const mostParts = (1<<31 - 1) / 16

// web is all lists and quotations that one list reaches, each once. So it has an end, even if some hold themselves, or one another over and over.
type web struct {
	holders []holder // the first is that list
	links   [][]link // of each holder, those that it holds
}

// link tells that the part at a place is the holder with a number.
type link struct{ at, to int }

// copyApart answers a copy of a list that need not be sound. No list of it is one that was handed in, and no two of them are one list, unless there would be no end of them, or more than an answer may have: then what was one list is one list in the copy, too.
func copyApart(list []api.Value) []api.Value {
	w := webOf(list)
	if w.comesToAnEnd() {
		return w.copyEachTime()
	}
	return w.copyOnce()
}

func webOf(list []api.Value) *web {
	w := &web{holders: []holder{{values: list}}}
	numbers := map[place]int{w.holders[0].place(): 0}
	for i := 0; i < len(w.holders); i++ {
		h := w.holders[i]
		var links []link
		for at := range h.parts() {
			part, ok := h.inner(at)
			if !ok {
				continue
			}
			to, met := numbers[part.place()]
			if !met {
				to = len(w.holders)
				numbers[part.place()] = to
				w.holders = append(w.holders, part)
			}
			links = append(links, link{at, to})
		}
		w.links = append(w.links, links)
	}
	return w
}

// comesToAnEnd answers whether a copy with a list of its own for each time that a holder is held has an end, and no more parts than an answer may have. Holders are gone through behind all that hold them, as it is known then how often they are held; so one within itself never comes.
func (w *web) comesToAnEnd() bool {
	waiting := w.held()
	times := make([]int, len(w.holders))
	var ready []int
	if waiting[0] == 0 {
		times[0] = 1
		ready = append(ready, 0)
	}
	parts := 0
	for gone := 0; gone < len(ready); gone++ {
		i := ready[gone]
		parts += times[i] * w.holders[i].parts()
		if parts > mostParts {
			return false
		}
		for _, l := range w.links[i] {
			times[l.to] += times[i]
			waiting[l.to]--
			if waiting[l.to] == 0 {
				ready = append(ready, l.to)
			}
		}
	}
	return len(ready) == len(w.holders)
}

// held answers how often each holder is a part of the others.
func (w *web) held() []int {
	counts := make([]int, len(w.holders))
	for _, links := range w.links {
		for _, l := range links {
			counts[l.to]++
		}
	}
	return counts
}

// job is a holder whose copy was made, but with parts that are still those of the other.
type job struct {
	number int
	made   holder
}

// copyEachTime copies each holder as often as it is held. It goes by a list of what is to be done, as a web may be deeper than calls.
func (w *web) copyEachTime() []api.Value {
	first := w.holders[0].clone()
	jobs := []job{{0, first}}
	for len(jobs) > 0 {
		last := len(jobs) - 1
		j := jobs[last]
		jobs = jobs[:last]
		for _, l := range w.links[j.number] {
			part := w.holders[l.to].clone()
			j.made.set(l.at, part)
			jobs = append(jobs, job{l.to, part})
		}
	}
	return first.values
}

// copyOnce copies each holder once.
func (w *web) copyOnce() []api.Value {
	made := make([]holder, len(w.holders))
	for i, h := range w.holders {
		made[i] = h.clone()
	}
	for i, links := range w.links {
		for _, l := range links {
			made[i].set(l.at, made[l.to])
		}
	}
	return made[0].values
}
