package call

import (
	"slices"

	"parapet/api"
)

// Errno is the number by which an error is told.
func Errno(e api.Errno) int {
	switch e {
	case api.OK:
		return 0
	case api.ErrNone:
		return api.ENOENT
	case api.ErrProc, api.ErrThread:
		return api.ESRCH
	case api.ErrImage:
		return api.ENOEXEC
	case api.ErrFd, api.ErrFile:
		return api.EBADF
	case api.ErrWait:
		return api.EAGAIN
	case api.ErrFull:
		return api.ENOMEM
	case api.ErrFault:
		return api.EFAULT
	case api.ErrBusy:
		return api.EBUSY
	case api.ErrExist:
		return api.EEXIST
	case api.ErrDir:
		return api.ENOTDIR
	case api.ErrIsDir:
		return api.EISDIR
	case api.ErrRange:
		return api.EFBIG
	case api.ErrSpace:
		return api.ENOSPC
	case api.ErrLinks:
		return api.EMLINK
	case api.ErrPipe:
		return api.EPIPE
	case api.ErrLong:
		return api.ENAMETOOLONG
	case api.ErrCall:
		return api.ENOSYS
	case api.ErrNotEmpty:
		return api.ENOTEMPTY
	}
	return api.EINVAL
}

// word is an errno's letters.
type word struct {
	errno   int
	letters string
}

// words is all errnos.
func words() []word {
	return []word{
		{api.ENOENT, "ENOENT"}, {api.ESRCH, "ESRCH"}, {api.ENOEXEC, "ENOEXEC"}, {api.EBADF, "EBADF"}, {api.ECHILD, "ECHILD"}, {api.EAGAIN, "EAGAIN"},
		{api.ENOMEM, "ENOMEM"}, {api.EFAULT, "EFAULT"}, {api.EBUSY, "EBUSY"}, {api.EEXIST, "EEXIST"}, {api.ENOTDIR, "ENOTDIR"}, {api.EISDIR, "EISDIR"},
		{api.EINVAL, "EINVAL"}, {api.ENFILE, "ENFILE"}, {api.EMFILE, "EMFILE"}, {api.EFBIG, "EFBIG"}, {api.ENOSPC, "ENOSPC"}, {api.EMLINK, "EMLINK"},
		{api.EPIPE, "EPIPE"}, {api.ENAMETOOLONG, "ENAMETOOLONG"}, {api.ENOSYS, "ENOSYS"}, {api.ENOTEMPTY, "ENOTEMPTY"},
	}
}

// Word is its letters.
func Word(errno int) string {
	at := slices.IndexFunc(words(), func(x word) bool { return x.errno == errno })
	if at < 0 {
		return ""
	}
	return words()[at].letters
}
