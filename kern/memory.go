package kern

import (
	"bytes"

	"parapet/api"
	"parapet/copyio"
	"parapet/namec"
)

// has tells whether n bytes from an address on are all there.
func (r *request) has(at uint32, n int) bool {
	for _, page := range copyio.Pages(at, n) {
		if !r.p.space.Has(page) {
			return false
		}
	}
	return true
}

// peek is n bytes from an address on, which are there. A page without an entry reads as zeros, and takes no frame.
func (r *request) peek(at uint32, n int) []byte {
	var b []byte
	for _, page := range copyio.Pages(at, n) {
		x, _ := r.p.space.Page(page)
		b = append(b, x...)
	}
	from := at % api.PageSize
	if len(b) == 0 {
		return nil
	}
	return b[from : from+uint32(n)]
}

// prepare lets n bytes from an address on, which are there, be stored to. False: not now, or not at all, as the outcome says.
func (r *request) prepare(at uint32, n int) (outcome, bool) {
	page, missing := copyio.Missing(r.p.space.Table(), at, n, true)
	for missing {
		switch r.mend(r.t, uint32(page*api.PageSize), true) {
		case api.FaultNoMem:
			return fails(api.ENOMEM), false
		case api.FaultWait:
			return outcome{}, false // it goes on by itself behind that
		}
		page, missing = copyio.Missing(r.p.space.Table(), at, n, true)
	}
	return outcome{}, true
}

// put stores bytes from an address on, for which that is prepared.
func (r *request) put(at uint32, b []byte) {
	copyio.Out(r.memory, r.p.space.Table(), at, b)
}

// poke stores a word.
func (r *request) poke(at, x uint32) {
	copyio.Store(r.memory, r.p.space.Table(), at, x)
}

// path is the path at an address.
func (r *request) path(at uint32) (path string, errno int) {
	var b []byte
	rest := api.MaxPath + 1
	for rest > 0 {
		n := min(rest, api.PageSize-int(at%api.PageSize))
		if !r.has(at, n) {
			return "", api.EFAULT
		}
		text, _, done := bytes.Cut(r.peek(at, n), []byte{0})
		b = append(b, text...)
		if done {
			return legal(string(b))
		}
		at, rest = at+uint32(n), rest-n
	}
	return "", api.ENAMETOOLONG
}

func legal(path string) (string, int) {
	if _, e := namec.Split(path); e != api.OK {
		return "", api.EINVAL
	}
	return path, 0
}

// paths is the path at a, and the one at b.
func (r *request) paths() (a, b string, errno int) {
	if a, errno = r.path(r.a); errno != 0 {
		return "", "", errno
	}
	if b, errno = r.path(r.b); errno != 0 {
		return "", "", errno
	}
	return a, b, 0
}

func (r *request) fwait() outcome {
	switch {
	case r.a%wordSize != 0:
		return fails(api.EINVAL)
	case !r.has(r.a, wordSize):
		return fails(api.EFAULT)
	case wordOf(r.peek(r.a, wordSize)) != r.b:
		return fails(api.EAGAIN)
	}
	return sleeps(api.Chan{Kind: onWord, A: r.p.pid, B: int(r.a)})
}

func (r *request) fwake() outcome {
	if r.a%wordSize != 0 {
		return fails(api.EINVAL)
	}
	most := int(min(r.b, api.MaxThreads))
	return tells(r.wakeSome(api.Chan{Kind: onWord, A: r.p.pid, B: int(r.a)}, most))
}

func (r *request) mmap() outcome {
	if r.a == 0 || r.a > api.MaxMmap {
		return fails(api.EINVAL)
	}
	s := r.p.space
	first, ok := s.Gap(api.MmapFrom, int(r.a))
	if !ok {
		return fails(api.ENOMEM)
	}
	had := len(s.Regions())
	s.Map(first, int(r.a))
	r.fit(r.t, had)
	return tells(first * api.PageSize)
}

func (r *request) munmap() outcome {
	first := r.a / api.PageSize
	// b is held against what is left, since the sum may wrap.
	if r.a%api.PageSize != 0 || r.b == 0 || first > api.Pages || r.b > api.Pages-first {
		return fails(api.EINVAL)
	}
	s := r.p.space
	had := len(s.Regions())
	c, _ := s.Unmap(int(first), int(r.b), r.keepers(s))
	r.settle(r.t, c, unmapped{regions: had})
	return outcome{}
}

// wordOf is the word of four bytes.
func wordOf(b []byte) uint32 {
	return uint32(b[0]) | uint32(b[1])<<8 | uint32(b[2])<<16 | uint32(b[3])<<24
}
