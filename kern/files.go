package kern

import (
	"parapet/api"
	"parapet/call"
	"parapet/pipe"
)

// What an open file does, as flags of it.
const (
	toRead = 1 << iota
	toWrite
	ofDir // it is a directory: that does neither, and is open on no inode, whose number may be another one's later
)

// The flags of open.
const (
	openNew  = 1 << iota // what is not there is made
	openBare             // its bytes are gone
	openEnd              // no flag is as great
)

const pipeEnds = 2

// stream is what bytes come from, and go to, one behind the other.
type stream interface {
	Read(n int) ([]byte, api.Errno)
	Write(b []byte) (int, api.Errno)
	Ready(write bool) bool
}

// streamOf is what an open file that is none of a file is open on, how many bytes are there to be read, and where one sleeps till more come.
func (k *kernel) streamOf(f api.File) (stream, int, outcome) {
	if f.Kind == api.FileConsole {
		return k.console, k.console.Waiting(), sleeps(api.Chan{Kind: onConsole})
	}
	p := k.pipes[f.What]
	return p, p.Len(), sleeps(api.Chan{Kind: onBytes, A: f.What})
}

// file is the open file of the descriptor at a, and its number, if one is there.
func (r *request) file() (int, api.File, bool) {
	id, e := r.p.fds.Get(int(r.a))
	if e != api.OK {
		return 0, api.File{}, false
	}
	f, e := r.files.Get(id)
	return id, f, e == api.OK
}

// regular is the open file of the descriptor at a, which must be one of a file.
func (r *request) regular() (id int, f api.File, errno int) {
	id, f, ok := r.file()
	switch {
	case !ok:
		return 0, api.File{}, api.EBADF
	case f.Kind != api.FileInode || f.Flags&ofDir != 0:
		return 0, api.File{}, api.EINVAL
	}
	return id, f, 0
}

// channel is the open file that is read or written, whose buffer is c bytes at b.
func (r *request) channel(flag int) (id int, f api.File, errno int) {
	id, f, ok := r.file()
	switch {
	case !ok || f.Flags&flag == 0:
		errno = api.EBADF
	case r.c > api.MaxCopy:
		errno = api.EINVAL
	case !r.has(r.b, int(r.c)):
		errno = api.EFAULT
	case f.Flags&ofDir != 0:
		errno = api.EISDIR
	}
	return id, f, errno
}

func (r *request) read() outcome {
	id, f, errno := r.channel(toRead)
	if errno != 0 {
		return fails(errno)
	}
	if f.Kind == api.FileInode {
		return r.readFile(id, f)
	}
	s, there, asleep := r.streamOf(f)
	if r.c > 0 && !s.Ready(false) {
		return asleep
	}
	if o, ok := r.prepare(r.b, min(int(r.c), there)); !ok {
		return o
	}
	b, _ := s.Read(int(r.c))
	r.put(r.b, b)
	if f.Kind == api.FileRead && len(b) > 0 {
		r.wake(api.Chan{Kind: onRoom, A: f.What})
	}
	return tells(len(b))
}

func (r *request) readFile(id int, f api.File) outcome {
	b, e := r.fs.Read(f.What, f.At, int(r.c))
	if e != api.OK {
		return r.refuse(e)
	}
	if o, ok := r.prepare(r.b, len(b)); !ok {
		return o
	}
	r.put(r.b, b)
	r.files.Move(id, f.At+len(b))
	return tells(len(b))
}

func (r *request) write() outcome {
	id, f, errno := r.channel(toWrite)
	if errno != 0 {
		return fails(errno)
	}
	b := r.peek(r.b, int(r.c))
	if f.Kind == api.FileInode {
		return r.writeFile(id, f, b)
	}
	s, _, _ := r.streamOf(f)
	n, e := s.Write(b)
	switch e {
	case api.OK:
	case api.ErrWait:
		return sleeps(api.Chan{Kind: onRoom, A: f.What})
	case api.ErrFull: // a console has no more room, and never will
		return fails(api.ENOSPC)
	default:
		return fails(call.Errno(e))
	}
	if f.Kind == api.FileWrite && n > 0 {
		r.wake(api.Chan{Kind: onBytes, A: f.What})
	}
	return tells(n)
}

func (r *request) writeFile(id int, f api.File, b []byte) outcome {
	if f.At+len(b) > api.MaxFileSize {
		return fails(api.EFBIG)
	}
	if len(b) > 0 {
		if e := r.fs.Write(f.What, f.At, b); e != api.OK {
			return r.refuse(e)
		}
		r.files.Move(id, f.At+len(b))
	}
	return tells(len(b))
}

func (r *request) close() outcome {
	if _, _, ok := r.file(); !ok {
		return fails(api.EBADF)
	}
	r.shut(r.p, int(r.a))
	return tells(0)
}

// shut lets a descriptor name nothing; with the last one its open file is closed.
func (k *kernel) shut(p *process, fd int) {
	id, _ := p.fds.Get(fd)
	f, closed, _ := p.fds.Close(fd)
	if !closed {
		return
	}
	k.drop(holding{api.KindFile, id})
	switch f.Kind {
	case api.FileInode:
		if f.Flags&ofDir == 0 {
			k.unused(f.What)
		}
	case api.FileRead, api.FileWrite:
		if gone, _ := k.pipes[f.What].Close(f.Kind == api.FileWrite); gone {
			delete(k.pipes, f.What)
			k.drop(holding{api.KindPipe, f.What})
		}
		k.wake(api.Chan{Kind: onBytes, A: f.What})
		k.wake(api.Chan{Kind: onRoom, A: f.What})
	}
}

func (r *request) dup() outcome {
	if _, _, ok := r.file(); !ok {
		return fails(api.EBADF)
	}
	fd, e := r.p.fds.Dup(int(r.a))
	if e != api.OK {
		return fails(api.EMFILE)
	}
	return tells(fd)
}

func (r *request) pipe() outcome {
	switch {
	case r.a%wordSize != 0:
		return fails(api.EINVAL)
	case !r.has(r.a, pipeEnds*wordSize):
		return fails(api.EFAULT)
	case r.p.fds.Free() < pipeEnds:
		return fails(api.EMFILE)
	case len(r.files.All()) > api.MaxOpen-pipeEnds:
		return fails(api.ENFILE)
	}
	if o, ok := r.prepare(r.a, pipeEnds*wordSize); !ok {
		return o
	}
	r.piped++
	r.pipes[r.piped] = pipe.New()
	r.hold(r.t.tid, r.p.pid, holding{api.KindPipe, r.piped})
	r.poke(r.a, uint32(r.install(api.FileRead, r.piped, toRead)))
	r.poke(r.a+wordSize, uint32(r.install(api.FileWrite, r.piped, toWrite)))
	return tells(0)
}

// install lets the least free descriptor name a new open file, and tells which it is.
func (r *request) install(kind, what, flags int) int {
	id, _ := r.files.Open(kind, what, flags)
	fd, _ := r.p.fds.Install(id)
	r.hold(r.t.tid, r.p.pid, holding{api.KindFile, id})
	return fd
}

func (r *request) size() outcome {
	_, f, errno := r.regular()
	if errno != 0 {
		return fails(errno)
	}
	x, e := r.fs.Stat(f.What)
	if e != api.OK {
		return r.refuse(e)
	}
	return tells(x.Size)
}

func (r *request) seek() outcome {
	id, _, errno := r.regular()
	if errno != 0 {
		return fails(errno)
	}
	if r.b > api.MaxFileSize {
		return fails(api.EINVAL)
	}
	r.files.Move(id, int(r.b))
	return tells(int(r.b))
}

func (r *request) poll() outcome {
	_, f, ok := r.file()
	switch {
	case !ok:
		return fails(api.EBADF)
	case r.b != toRead && r.b != toWrite:
		return fails(api.EINVAL)
	case f.Kind == api.FileInode || f.Flags&int(r.b) == 0: // it is done, or refused
		return tells(1)
	}
	if s, _, _ := r.streamOf(f); !s.Ready(r.b == toWrite) {
		return tells(0)
	}
	return tells(1)
}
