package low_test

import (
	"syscall"
	"testing"
	"unsafe"

	"gridiron/api"
	"gridiron/low"
)

// many are n points that need no memory as long as nobody looks at them: there is room of addresses alone behind them.
func many(t *testing.T, n int) []api.Point {
	t.Helper()
	size := n * int(unsafe.Sizeof(api.Point{}))
	room, err := syscall.Mmap(-1, 0, size, syscall.PROT_READ, syscall.MAP_ANON|syscall.MAP_PRIVATE|syscall.MAP_NORESERVE)
	if err != nil {
		t.Skipf("there is no room for %d points: %v", n, err)
	}
	t.Cleanup(func() { syscall.Munmap(room) })
	return unsafe.Slice((*api.Point)(unsafe.Pointer(&room[0])), n)
}

// P14.1: ErrLong

func TestBuildOfTooMany(t *testing.T) {
	// All have one name, so that ErrArg would be the answer, did it not stand behind ErrLong.
	list := many(t, api.MaxPoints+1)
	if v, errno := low.Build(list); v != nil || errno != api.ErrLong {
		t.Errorf("of %d points: %v, %d; not ErrLong alone", len(list), v, errno)
	}
	if v, errno := low.Build(list[1:]); v != nil || errno != api.ErrArg {
		t.Errorf("of %d points: %v, %d; not ErrArg alone", len(list)-1, v, errno)
	}
}
