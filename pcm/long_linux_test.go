package pcm_test

import (
	"syscall"
	"testing"
	"unsafe"

	"descant/api"
	"descant/pcm"
)

// noughts is a list of very many noughts that takes hardly any memory: as long as it is but read, all its pages are one.
func noughts(t *testing.T, n int) []int {
	t.Helper()
	b, err := syscall.Mmap(-1, 0, n*int(unsafe.Sizeof(0)), syscall.PROT_READ|syscall.PROT_WRITE, syscall.MAP_PRIVATE|syscall.MAP_ANON|syscall.MAP_NORESERVE)
	if err != nil {
		t.Skip("no such list here:", err)
	}
	t.Cleanup(func() { syscall.Munmap(b) })
	syscall.Madvise(b, syscall.MADV_HUGEPAGE) // reading is much slower without, but the same
	return unsafe.Slice((*int)(unsafe.Pointer(&b[0])), n)
}

// P5.1, P5.2: as many samples as may be, and one more.
func TestVeryLong(t *testing.T) {
	const half = 1 << 31 // two of these are one more than may be
	l := noughts(t, api.MaxCount+1)
	if e := pcm.Check(of(l)); e != api.ErrLength {
		t.Error("one more than MaxCount:", e)
	}
	if e := pcm.Check(of(l, l)); e != api.ErrLength {
		t.Error("one more than MaxCount, twice:", e)
	}
	_, e := pcm.Join(of(l[half:]), of(l[half:]))
	if e != api.ErrLength {
		t.Error("one more than MaxCount put together:", e)
	}
	// That MaxCount samples are not too many is told by the next error.
	l[0] = 128
	if e := pcm.Check(of(l[:api.MaxCount])); e != api.ErrSample {
		t.Error("MaxCount:", e)
	}
	if e := pcm.Check(of(l)); e != api.ErrLength {
		t.Error("one more than MaxCount, and a sample:", e)
	}
	if _, e := pcm.Join(of(l[:half]), of(l[half:])); e != api.ErrSample {
		t.Error("a sample, and one more than MaxCount put together:", e)
	}
}
