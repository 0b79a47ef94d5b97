package ivl_test

import (
	"syscall"
	"testing"
	"unsafe"

	"gridiron/api"
	"gridiron/ivl"
)

// many are n spans that need no memory as long as nobody looks at them: there is room of addresses alone behind them.
func many(t *testing.T, n int) []api.Span {
	t.Helper()
	size := n * int(unsafe.Sizeof(api.Span{}))
	room, err := syscall.Mmap(-1, 0, size, syscall.PROT_READ, syscall.MAP_ANON|syscall.MAP_PRIVATE|syscall.MAP_NORESERVE)
	if err != nil {
		t.Skipf("there is no room for %d spans: %v", n, err)
	}
	t.Cleanup(func() { syscall.Munmap(room) })
	return unsafe.Slice((*api.Span)(unsafe.Pointer(&room[0])), n)
}

// P9.1: ErrLong

func TestBuildOfTooMany(t *testing.T) {
	// All have one name, so that ErrArg would be the answer, did it not stand behind ErrLong.
	list := many(t, api.MaxSpans+1)
	if v, errno := ivl.Build(list); v != nil || errno != api.ErrLong {
		t.Errorf("of %d spans: %v, %d; not ErrLong alone", len(list), v, errno)
	}
	if v, errno := ivl.Build(list[1:]); v != nil || errno != api.ErrArg {
		t.Errorf("of %d spans: %v, %d; not ErrArg alone", len(list)-1, v, errno)
	}
}
