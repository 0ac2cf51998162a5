package fsop

import (
	"parapet/api"
	"parapet/dirent"
	"parapet/inode"
)

// survey is what a volume says of itself, by the numbers of inodes; nobody has number 0.
type survey struct {
	layout  api.Layout
	inodes  []api.Inode
	blocks  [][]int
	entries [][]api.Entry // of directories
	bitmap  []byte
}

// Check tells whether all agrees.
func (f *FS) Check() api.Errno {
	if f.closed() {
		return api.ErrClosed
	}
	s, e := f.survey()
	if e != api.OK {
		return e
	}
	if !s.namesAgree() || !s.blocksAgree() {
		return api.ErrVolume
	}
	return api.OK
}

func (f *FS) survey() (*survey, api.Errno) {
	count := f.layout.Inodes + 1
	s := &survey{layout: f.layout, inodes: make([]api.Inode, count), blocks: make([][]int, count), entries: make([][]api.Entry, count)}
	for n := 1; n < count; n++ {
		if e := f.inspect(s, n); e != api.OK {
			return nil, e
		}
	}
	// The bitmap is the block ahead of the data blocks.
	first, _ := inode.Data(f.layout)
	bitmap, e := f.log.Read(first - 1)
	s.bitmap = bitmap
	return s, e
}

// inspect takes in what an inode says.
func (f *FS) inspect(s *survey, n int) api.Errno {
	x, e := f.Stat(n)
	if e != api.OK {
		return e
	}
	s.inodes[n] = x
	if s.blocks[n], e = inode.Blocks(f.log, f.layout, n); e != api.OK {
		return e
	}
	if x.Kind == api.InodeDir {
		s.entries[n], e = dirent.List(f.log, f.layout, n)
	}
	return e
}

// namesAgree tells whether directories are a tree, and all have as many names as their links say.
func (s *survey) namesAgree() bool {
	names := s.count()
	reached := s.reached()
	for n, x := range s.inodes {
		agrees := x.Links == names[n] // of a free one: none
		switch {
		case n == root:
			agrees = x.Kind == api.InodeDir && x.Links == 1 && names[n] == 0
		case x.Kind == api.InodeDir:
			agrees = x.Links == 1 && names[n] == 1 && reached[n]
		}
		if !agrees {
			return false
		}
	}
	return true
}

// count is how many entries name each inode.
func (s *survey) count() []int {
	names := make([]int, len(s.inodes))
	for _, l := range s.entries {
		for _, x := range l {
			names[x.Inode]++
		}
	}
	return names
}

// reached is which inodes one comes to from the root.
func (s *survey) reached() []bool {
	reached := make([]bool, len(s.inodes))
	ahead := []int{root}
	for len(ahead) > 0 {
		n := ahead[len(ahead)-1]
		ahead = ahead[:len(ahead)-1]
		if reached[n] {
			continue
		}
		reached[n] = true
		for _, x := range s.entries[n] {
			ahead = append(ahead, x.Inode)
		}
	}
	return reached
}

// blocksAgree tells whether each data block is one inode's, and used, or nobody's, and not.
func (s *survey) blocksAgree() bool {
	owners := map[int]int{}
	for _, l := range s.blocks {
		for _, n := range l {
			owners[n]++
		}
	}
	first, count := inode.Data(s.layout)
	for n := first; n < first+count; n++ {
		if used := int(s.bitmap[n/8] >> (n % 8) & 1); owners[n] != used {
			return false
		}
	}
	return true
}
