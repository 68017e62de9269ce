package interp

import (
	"quire/api"
)

// run is a run of items. An error ends it, so it does not matter what it has changed by then.
type run struct {
	words  map[string][]api.Item
	state  api.State // its boxes are all that there ever were, be they still reached or not
	frames []frame   // the last is the top
	fuel   int       // what is left of it
	told   []byte
}

// frame makes one turn of what is still to be carried out, and answers whether the frame goes.
type frame func() (goes bool, e api.Errno)

// deed is what an item does.
type deed func() api.Errno

// whole carries out items, and all that they enter.
func (r *run) whole(items []api.Item) api.Errno {
	e := r.enter(items)
	for e == api.OK && len(r.frames) > 0 {
		top := len(r.frames) - 1
		var goes bool
		goes, e = r.frames[top]()
		if goes {
			r.frames = r.frames[:top]
		}
	}
	return e
}

// lay puts a frame on top.
func (r *run) lay(f frame) api.Errno {
	if len(r.frames) >= api.MaxFrames {
		return api.ErrDeep
	}
	r.frames = append(r.frames, f)
	return api.OK
}

func (r *run) enter(items []api.Item) api.Errno {
	return r.lay(r.items(items))
}

func (r *run) step() api.Errno {
	if r.fuel <= 0 {
		return api.ErrFuel
	}
	r.fuel--
	return api.OK
}

// inTurn carries out deeds up to the first that fails.
func inTurn(deeds ...deed) api.Errno {
	for _, do := range deeds {
		if e := do(); e != api.OK {
			return e
		}
	}
	return api.OK
}

// items is a frame that carries out one item a turn.
func (r *run) items(left []api.Item) frame {
	return func() (bool, api.Errno) {
		if len(left) == 0 {
			return true, api.OK
		}
		item := left[0]
		left = left[1:]
		return false, inTurn(r.step, r.doing(item))
	}
}

// back is a frame that brings a value back.
func (r *run) back(v api.Value) frame {
	return func() (bool, api.Errno) {
		return true, r.push(v)
	}
}

// times is a frame that enters a quotation n times.
func (r *run) times(n int64, quot []api.Item) frame {
	return func() (bool, api.Errno) {
		if n <= 0 {
			return true, api.OK
		}
		n--
		return false, inTurn(r.step, r.entering(quot))
	}
}

// each is a frame that enters a quotation with each value of a list on top.
func (r *run) each(left []api.Value, quot []api.Item) frame {
	return func() (bool, api.Errno) {
		if len(left) == 0 {
			return true, api.OK
		}
		v := left[0]
		left = left[1:]
		return false, inTurn(r.step, r.pushing(v), r.entering(quot))
	}
}

// loop is a frame that enters a quotation, and again as long as that leaves t.
func (r *run) loop(quot []api.Item) frame {
	again := false
	return func() (bool, api.Errno) {
		if again {
			args, e := r.take(flags)
			if e != api.OK || !flag(args[0]) {
				return true, e
			}
		}
		again = true
		return false, inTurn(r.step, r.entering(quot))
	}
}
