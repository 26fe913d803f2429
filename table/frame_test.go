package table

import (
	"bytes"
	"testing"

	"skerry/api"
	"skerry/codec"
)

// P9.1: a block and a filter of good cells never have so many bytes, so the bound that holds for all frames is looked at from inside.
func TestFrame(t *testing.T) {
	const head = 8
	for _, n := range []int{0, 1, api.MaxFrame - head - 1, api.MaxFrame - head} {
		content := bytes.Repeat([]byte{7}, n)
		w := writer{bytes: []byte("ahead")}
		if size := w.frame(content); size != head+n || w.full || !bytes.Equal(w.bytes, append([]byte("ahead"), codec.Frame(content)...)) {
			t.Errorf("of %d bytes: %d, full is %v, %d bytes are laid", n, size, w.full, len(w.bytes))
		}
	}
	for _, n := range []int{api.MaxFrame - head + 1, api.MaxFrame - 1, api.MaxFrame, api.MaxFrame + 1, 2 * api.MaxFrame} {
		var w writer
		w.frame(make([]byte, n))
		if !w.full {
			t.Errorf("of %d bytes: not full", n)
		}
		w.frame(nil)
		if !w.full {
			t.Errorf("of %d bytes: not full any more behind another frame", n)
		}
	}
}
