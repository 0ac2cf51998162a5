package lin

import (
	"strconv"
	"strings"

	"parapet/api"
)

// trees is unlike ones, in the order in which they came.
type trees struct {
	all    [][]api.Placed
	places map[string]int // by their texts
}

func newTrees(l ...[]api.Placed) *trees {
	t := &trees{places: map[string]int{}}
	for _, x := range l {
		t.add(x)
	}
	return t
}

// add takes in one that is nobody's else, if it is unlike the others.
func (t *trees) add(x []api.Placed) {
	text := textOf(x)
	if _, ok := t.places[text]; ok {
		return
	}
	t.places[text] = len(t.all)
	t.all = append(t.all, x)
}

func (t *trees) has(x []api.Placed) bool {
	_, ok := t.places[textOf(x)]
	return ok
}

// clear lets there be none.
func (t *trees) clear() {
	t.all = nil
	clear(t.places)
}

// textOf is a text that no other tree has: how long each part is stands ahead of it.
func textOf(l []api.Placed) string {
	var b strings.Builder
	for _, x := range l {
		kind := "file"
		if x.Dir {
			kind = "dir"
		}
		for _, part := range []string{x.Path, kind, x.Bytes} {
			b.WriteString(strconv.Itoa(len(part)))
			b.WriteByte(' ')
			b.WriteString(part)
		}
	}
	return b.String()
}
