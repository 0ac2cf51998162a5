package pm

import (
	"parapet/api"
	"parapet/pipe"
)

// tube is how a pipe stands. Layer 21's can't be copied: one is made of this for each thing that is done with it.
type tube struct {
	bytes   string // on their way
	readers bool   // is its reading end open?
	writers bool
}

// pipe is the pipe that stands so.
func (x *tube) pipe() *pipe.Pipe {
	p := pipe.New()
	p.Write([]byte(x.bytes))
	if !x.readers {
		p.Close(false)
	}
	if !x.writers {
		p.Close(true)
	}
	return p
}

// shut closes an end, and tells whether both are closed.
func (x *tube) shut(write bool) bool {
	if write {
		x.writers = false
	} else {
		x.readers = false
	}
	return !x.readers && !x.writers
}

// console is what comes, from which one is made as of a pipe, and one to which all is written.
type console struct {
	came   string // and was not read
	ended  bool   // no more come
	screen *pipe.Console
}

func newConsole() console {
	return console{screen: pipe.NewConsole()}
}

// keys is a console to which came what was not read.
func (x *console) keys() *pipe.Console {
	k := pipe.NewConsole()
	k.Type([]byte(x.came))
	if x.ended {
		k.End()
	}
	return k
}

// input lets bytes come, if they may.
func (x *console) input(bytes string) bool {
	if x.keys().Type([]byte(bytes)) != api.OK {
		return false
	}
	x.came += bytes
	return true
}

func (x *console) copy() console {
	y := *x
	y.screen = pipe.NewConsole()
	y.screen.Write(x.screen.Output())
	return y
}
