package rcu

import (
	"cmp"
	"slices"
	"strings"

	"parapet/api"
)

// node is a key and its value, in a chain. A neighbour 0 is none.
type node struct {
	key    api.Name
	value  int
	ahead  int
	behind int
}

// Table is names, and values of them.
type Table struct {
	domain *Domain
	firsts []int            // of each bucket: the first node of its chain
	found  map[api.Name]int // the nodes of the keys that are there
	nodes  map[int]*node    // those that were not freed, by their numbers; one that its key does not find was taken out
	made   int
}

// NewTable is an empty one.
func NewTable(d *Domain, buckets int) (*Table, api.Errno) {
	if d.closed() || buckets < 1 || buckets > api.MaxBuckets {
		return nil, api.ErrArg
	}
	return &Table{domain: d, firsts: make([]int, buckets), found: map[api.Name]int{}, nodes: map[int]*node{}}, api.OK
}

// Put puts a key in: its node.
func (t *Table) Put(key api.Name, value int) (int, api.Errno) {
	if t.closed() {
		return 0, api.ErrClosed
	}
	if _, there := t.found[key]; there {
		return 0, api.ErrTwice
	}
	// A name may be cut from a long text, which need not stay for it.
	key.Name = strings.Clone(key.Name)
	t.made++
	first := &t.firsts[t.bucket(key)]
	t.nodes[t.made] = &node{key: key, value: value, behind: *first}
	if *first != 0 {
		t.nodes[*first].ahead = t.made
	}
	*first = t.made
	t.found[key] = t.made
	return t.made, api.OK
}

// Del takes one out: its node.
func (t *Table) Del(key api.Name) (int, api.Errno) {
	if t.closed() {
		return 0, api.ErrClosed
	}
	number, there := t.found[key]
	if !there {
		return 0, api.ErrNone
	}
	delete(t.found, key)
	t.unlink(t.nodes[number])
	// If somebody deferred that number already, the node waits as that one.
	t.domain.Defer(number)
	return number, api.OK
}

// Get is a key's value.
func (t *Table) Get(key api.Name) (int, bool) {
	if t.closed() {
		return 0, false
	}
	number, there := t.found[key]
	if !there {
		return 0, false
	}
	return t.nodes[number].value, true
}

// First is the first node of a key's chain.
func (t *Table) First(key api.Name) int {
	if t.closed() {
		return 0
	}
	return t.firsts[t.bucket(key)]
}

// Next is the node behind one.
func (t *Table) Next(node int) (int, api.Errno) {
	if t.closed() {
		return 0, api.ErrClosed
	}
	n := t.nodes[node]
	if n == nil {
		return 0, api.ErrGone
	}
	return n.behind, api.OK
}

// At is what a node has.
func (t *Table) At(node int) (api.Name, int, api.Errno) {
	if t.closed() {
		return api.Name{}, 0, api.ErrClosed
	}
	n := t.nodes[node]
	if n == nil {
		return api.Name{}, 0, api.ErrGone
	}
	return n.key, n.value, api.OK
}

// Reclaim frees what may be.
func (t *Table) Reclaim() []int {
	if t.closed() {
		return nil
	}
	var freed []int
	for _, number := range t.domain.Ready() {
		if n := t.nodes[number]; n != nil && t.found[n.key] != number {
			delete(t.nodes, number)
			freed = append(freed, number)
		}
	}
	return freed
}

// Len is how many keys there are.
func (t *Table) Len() int {
	if t.closed() {
		return 0
	}
	return len(t.found)
}

// All is all of them.
func (t *Table) All() []api.Name {
	if t.closed() {
		return nil
	}
	var keys []api.Name
	for key := range t.found {
		keys = append(keys, key)
	}
	slices.SortFunc(keys, func(a, b api.Name) int {
		return cmp.Or(cmp.Compare(a.Dir, b.Dir), cmp.Compare(a.Name, b.Name))
	})
	return keys
}

// closed tells whether no call of this package made t.
func (t *Table) closed() bool {
	return t == nil || t.domain == nil
}

// bucket is the number of a key's bucket. Each part is cut down by itself, since all together may be more than an int holds.
func (t *Table) bucket(key api.Name) int {
	n := len(t.firsts)
	sum := max(0, key.Dir) % n
	for i := range len(key.Name) {
		sum = (sum + int(key.Name[i])*((i+1)%n)) % n
	}
	return sum
}

// unlink takes a node out of its chain. The node itself still knows what is behind it: somebody may stand at it.
func (t *Table) unlink(n *node) {
	if n.ahead == 0 {
		t.firsts[t.bucket(n.key)] = n.behind
	} else {
		t.nodes[n.ahead].behind = n.behind
	}
	if n.behind != 0 {
		t.nodes[n.behind].ahead = n.ahead
	}
}
