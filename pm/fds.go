package pm

import (
	"slices"
	"strings"

	"parapet/api"
)

// What an open file does, as a flag of it, and as poll asks for it.
const (
	toRead  = 1
	toWrite = 2
)

const pipeEnds = 2

// free is how many descriptors are of nothing.
func (p *process) free() int {
	n := 0
	for _, id := range p.fds {
		if id == 0 {
			n++
		}
	}
	return n
}

// least is the least descriptor that is of nothing; one is.
func (p *process) least() int {
	return slices.Index(p.fds[:], 0)
}

// install lets the least free descriptor be of a new open file, and tells which it is.
func (w *World) install(p *process, f api.File) int {
	fd, id := p.least(), w.fresh()
	f.Refs = 1
	w.files[id], p.fds[fd] = &f, id
	return fd
}

// close lets a descriptor be of nothing; its open file is gone with the last one.
func (w *World) close(p *process, fd int) {
	id := p.fds[fd]
	p.fds[fd] = 0
	f := w.files[id]
	f.Refs--
	if f.Refs > 0 {
		return
	}
	delete(w.files, id)
	switch f.Kind {
	case api.FileInode:
		w.drop(f.What)
	case api.FileRead, api.FileWrite:
		if w.pipes[f.What].shut(f.Kind == api.FileWrite) {
			delete(w.pipes, f.What)
		}
	}
}

// file is the open file of the descriptor at a, if one is there.
func (r *request) file() (*api.File, bool) {
	if r.a >= api.MaxFds || r.p.fds[r.a] == 0 {
		return nil, false
	}
	return r.w.files[r.p.fds[r.a]], true
}

// regular is the file that the descriptor at a is of, which must be one.
func (r *request) regular() (*api.File, *node, int) {
	f, ok := r.file()
	if !ok {
		return nil, nil, api.EBADF
	}
	if f.Kind != api.FileInode || r.w.nodes[f.What].dir {
		return nil, nil, api.EINVAL
	}
	return f, r.w.nodes[f.What], 0
}

// channel is the open file that is read or written, whose buffer is c bytes at b.
func (r *request) channel(what int) (*api.File, int) {
	f, ok := r.file()
	switch {
	case !ok || f.Flags&what == 0:
		return nil, api.EBADF
	case r.c > api.MaxCopy:
		return nil, api.EINVAL
	case !r.p.pages.has(r.b, int(r.c)):
		return nil, api.EFAULT
	case f.Kind == api.FileInode && r.w.nodes[f.What].dir:
		return nil, api.EISDIR
	}
	return f, 0
}

func (r *request) close() outcome {
	if _, ok := r.file(); !ok {
		return fails(api.EBADF)
	}
	return tells(0, func() { r.w.close(r.p, int(r.a)) })
}

func (r *request) read() outcome {
	f, errno := r.channel(toRead)
	if errno != 0 {
		return fails(errno)
	}
	switch f.Kind {
	case api.FileInode:
		return r.readFile(f)
	case api.FileRead:
		x := r.w.pipes[f.What]
		b, e := x.pipe().Read(int(r.c))
		return r.take(&x.bytes, b, e)
	}
	b, e := r.w.console.keys().Read(int(r.c))
	return r.take(&r.w.console.came, b, e)
}

func (r *request) readFile(f *api.File) outcome {
	bytes := r.w.nodes[f.What].bytes
	bytes = bytes[min(f.At, len(bytes)):]
	bytes = bytes[:min(int(r.c), len(bytes))]
	return tells(len(bytes), func() {
		r.p.pages.put(r.b, []byte(bytes))
		f.At += len(bytes)
	})
}

// take is a read of the bytes b, the first ones of those that are left, or of what was told in their place.
func (r *request) take(left *string, b []byte, e api.Errno) outcome {
	if e != api.OK {
		return outcome{kind: waits}
	}
	return tells(len(b), func() {
		r.p.pages.put(r.b, b)
		*left = (*left)[len(b):]
	})
}

func (r *request) write() outcome {
	f, errno := r.channel(toWrite)
	if errno != 0 {
		return fails(errno)
	}
	b, _ := r.p.pages.bytes(r.b, int(r.c))
	switch f.Kind {
	case api.FileInode:
		return r.writeFile(f, b)
	case api.FileWrite:
		return writePipe(r.w.pipes[f.What], b)
	}
	// A console that is full refuses; then only ENOSPC can be told, which may be told of each write.
	return outcome{value: uint32(len(b)), do: func() bool {
		_, e := r.w.console.screen.Write(b)
		return e == api.OK
	}}
}

func (r *request) writeFile(f *api.File, b []byte) outcome {
	if f.At+len(b) > api.MaxFileSize {
		return fails(api.EFBIG)
	}
	if len(b) == 0 {
		return outcome{}
	}
	return tells(len(b), func() {
		x := r.w.nodes[f.What]
		x.bytes = over(x.bytes, f.At, b)
		f.At += len(b)
	})
}

// over is bytes with others over them from a place on; zeros where there were none.
func over(bytes string, at int, b []byte) string {
	if short := at - len(bytes); short > 0 {
		bytes += strings.Repeat("\x00", short)
	}
	return bytes[:at] + string(b) + bytes[min(at+len(b), len(bytes)):]
}

func writePipe(x *tube, b []byte) outcome {
	n, e := x.pipe().Write(b)
	switch e {
	case api.ErrPipe:
		return fails(api.EPIPE)
	case api.ErrWait:
		return outcome{kind: waits}
	}
	return tells(n, func() { x.bytes += string(b[:n]) })
}

func (r *request) dup() outcome {
	f, ok := r.file()
	if !ok {
		return fails(api.EBADF)
	}
	if r.p.free() < 1 {
		return fails(api.EMFILE)
	}
	fd := r.p.least()
	return tells(fd, func() {
		r.p.fds[fd] = r.p.fds[r.a]
		f.Refs++
	})
}

func (r *request) pipe() outcome {
	switch {
	case r.a%wordSize != 0:
		return fails(api.EINVAL)
	case !r.p.pages.has(r.a, pipeEnds*wordSize):
		return fails(api.EFAULT)
	case r.p.free() < pipeEnds:
		return fails(api.EMFILE)
	case len(r.w.files) > api.MaxOpen-pipeEnds:
		return fails(api.ENFILE)
	}
	return tells(0, func() {
		n := r.w.fresh()
		r.w.pipes[n] = &tube{readers: true, writers: true}
		for i, f := range [pipeEnds]api.File{{Kind: api.FileRead, What: n, Flags: toRead}, {Kind: api.FileWrite, What: n, Flags: toWrite}} {
			fd := r.w.install(r.p, f)
			r.p.pages.putWord(r.a+uint32(i*wordSize), uint32(fd))
		}
	})
}

func (r *request) size() outcome {
	_, x, errno := r.regular()
	if errno != 0 {
		return fails(errno)
	}
	return outcome{value: uint32(len(x.bytes))}
}

func (r *request) seek() outcome {
	f, _, errno := r.regular()
	if errno != 0 {
		return fails(errno)
	}
	if r.b > api.MaxFileSize {
		return fails(api.EINVAL)
	}
	return tells(int(r.b), func() { f.At = int(r.b) })
}

func (r *request) poll() outcome {
	f, ok := r.file()
	switch {
	case !ok:
		return fails(api.EBADF)
	case r.b != toRead && r.b != toWrite:
		return fails(api.EINVAL)
	case f.Flags&int(r.b) != 0 && !r.w.ready(f):
		return outcome{value: 0}
	}
	return outcome{value: 1}
}

// ready tells whether a read, or a write, whichever of them an open file does, would not have to wait.
func (w *World) ready(f *api.File) bool {
	switch f.Kind {
	case api.FileRead, api.FileWrite:
		return w.pipes[f.What].pipe().Ready(f.Kind == api.FileWrite)
	case api.FileConsole:
		return w.console.keys().Ready(f.Flags == toWrite)
	}
	return true
}
