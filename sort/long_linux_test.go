package sort_test

import (
	"syscall"
	"testing"
	"unsafe"

	"gridiron/api"
	"gridiron/sort"
)

// many are n keys that need no memory as long as nobody looks at them: there is room of addresses alone behind them.
func many(t *testing.T, n int) []api.Key {
	t.Helper()
	size := n * int(unsafe.Sizeof(api.Key{}))
	room, err := syscall.Mmap(-1, 0, size, syscall.PROT_READ, syscall.MAP_ANON|syscall.MAP_PRIVATE|syscall.MAP_NORESERVE)
	if err != nil {
		t.Skipf("there is no room for %d keys: %v", n, err)
	}
	t.Cleanup(func() { syscall.Munmap(room) })
	return unsafe.Slice((*api.Key)(unsafe.Pointer(&room[0])), n)
}

// P3.1 and P3.2: ErrLong

func TestOrderOfTooMany(t *testing.T) {
	list := many(t, api.MaxItems+1)
	if got, written, errno := sort.Order(list); len(got) != 0 || written != 0 || errno != api.ErrLong {
		t.Errorf("%d places, %d, %d; not ErrLong alone", len(got), written, errno)
	}
}

func TestMergeOfTooMany(t *testing.T) {
	list := many(t, api.MaxItems+1)
	cases := []struct {
		name string
		a, b []api.Key
		want api.Errno
	}{
		{"all of them the first's", list, nil, api.ErrLong},
		{"all of them the second's", nil, list, api.ErrLong},
		{"both together", list[:3], list[3:], api.ErrLong},
		{"the other way about", list[3:], list[:3], api.ErrLong},
		{"too many count ahead of what does not rise", keys(2, 0, 1, 0), list[2:], api.ErrLong},
		{"as many as there may be, but the first does not rise", keys(2, 0, 1, 0), list[3:], api.ErrArg},
	}
	for _, c := range cases {
		if got, written, errno := sort.Merge(c.a, c.b); len(got) != 0 || written != 0 || errno != c.want {
			t.Errorf("%s: %d places, %d, %d; not %d alone", c.name, len(got), written, errno, c.want)
		}
	}
}
