package dict

import (
	"slices"

	"quire/api"
)

// keeper keeps a dictionary of a book with those that it can be turned to. They are never changed, so that they can go from list to list as they are.
type keeper struct {
	now          api.Dict
	past, future []api.Dict // the last of each is the next that it can be turned to
	bound        int        // how many of past an edit leaves
}

// edit makes d the dictionary. What was undone can't be brought on any more.
func (k *keeper) edit(d api.Dict) {
	k.past = append(k.past, k.now)
	if len(k.past) > k.bound {
		k.past = slices.Delete(k.past, 0, 1)
	}
	k.now, k.future = d, nil
}

// turn makes the last of one list the dictionary, and the dictionary the last of another.
func (k *keeper) turn(from, to *[]api.Dict) api.Errno {
	last := len(*from) - 1
	if last < 0 {
		return api.ErrNone
	}
	*to = append(*to, k.now)
	k.now = (*from)[last]
	*from = slices.Delete(*from, last, last+1)
	return api.OK
}
