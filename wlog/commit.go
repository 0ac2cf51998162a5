package wlog

import "parapet/api"

// The steps of a commit, by the document's numbers.
const (
	resting = iota // none runs
	logging
	logged
	heading
	headed // behind it the group lasts
	placing
	placed
	emptying
	emptied
)

// step is one operation of the disk, or one for each of the group's blocks.
type step struct {
	do   func(*Log)
	each bool
}

func steps() []step {
	return []step{
		logging:  {do: (*Log).logBlock, each: true},
		logged:   {do: (*Log).flush},
		heading:  {do: (*Log).writeHeader},
		headed:   {do: (*Log).flush},
		placing:  {do: (*Log).placeBlock, each: true},
		placed:   {do: (*Log).flush},
		emptying: {do: (*Log).emptyHeader},
		emptied:  {do: (*Log).flush},
	}
}

// Start lets a commit run.
func (l *Log) Start() bool {
	if l.closed() || l.Running() || l.before != nil || len(l.group.order) == 0 {
		return false
	}
	l.state = logging
	return true
}

// Step does its next step, and tells whether it runs on.
func (l *Log) Step() (bool, api.Errno) {
	if l.closed() {
		return false, api.ErrClosed
	}
	if !l.Running() {
		return false, api.ErrNone
	}
	s := steps()[l.state]
	s.do(l)
	l.next++
	if !s.each || l.next == len(l.group.order) {
		l.state, l.next = l.state+1, 0
	}
	if l.state > emptied {
		l.state, l.group = resting, empty()
	}
	return l.Running(), api.OK
}

// Running tells whether one runs.
func (l *Log) Running() bool {
	return !l.closed() && l.state != resting
}

// Commit does one to its end, and tells how many steps that were.
func (l *Log) Commit() (int, api.Errno) {
	if l.closed() {
		return 0, api.ErrClosed
	}
	if l.before != nil {
		return 0, api.ErrBusy
	}
	l.Start()
	return l.run(), api.OK
}

// run does what steps are left.
func (l *Log) run() int {
	n := 0
	for l.Running() {
		l.Step()
		n++
	}
	return n
}

// mend lays down what the disk's log says was committed, or makes its header right, and tells how many blocks were laid down.
func (l *Log) mend() int {
	b := l.sector(l.at)
	generation, blocks, ok := Parse(b, l.at, l.size, l.disk.Count())
	switch {
	case !ok:
		generation = ending(b) + 1
		l.state = emptying
	case len(blocks) > 0:
		l.state = placing
	}
	l.generation = generation
	for i, n := range blocks {
		l.group.write(n, l.sector(l.at+1+i))
	}
	l.run()
	return len(blocks)
}

func (l *Log) logBlock() {
	l.lay(l.at+1+l.next, l.group.last[l.group.order[l.next]])
}

func (l *Log) placeBlock() {
	n := l.group.order[l.next]
	l.lay(n, l.group.last[n])
}

func (l *Log) writeHeader() {
	l.generation++
	l.lay(l.at, header(l.generation, l.group.order))
}

func (l *Log) emptyHeader() {
	l.lay(l.at, header(l.generation, nil))
}

func (l *Log) flush() {
	l.disk.Flush()
}

// lay writes a sector. The disk has it, and b is one whole, so that it is not refused.
func (l *Log) lay(n int, b []byte) {
	l.disk.Write(n, b)
}

// sector is one that the disk has, so that it is not refused.
func (l *Log) sector(n int) []byte {
	b, _ := l.disk.Read(n)
	return b
}
