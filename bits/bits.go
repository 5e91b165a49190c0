// Package bits puts numbers into bytes bit by bit, the highest bit first, and gets them out again.
package bits

import "baler/api"

// maxField is how many bits the longest field has.
const maxField = 32

// Writer has all bits that were put, of which whole bytes may have been taken.
type Writer struct {
	whole []byte // whole bytes that were not taken
	part  uint64 // the bits behind them that are no whole byte yet
	put   int    // how many bits were put in all
}

// NewWriter is a writer without bits.
func NewWriter() *Writer { return &Writer{} }

// Put puts v behind all bits, as a field of n bits.
func (w *Writer) Put(v uint32, n int) api.Errno {
	if w == nil {
		return api.ErrState
	}
	if !isLength(n) || uint64(v)>>n != 0 {
		return api.ErrArg
	}
	loose := w.put%8 + n
	w.part = w.part<<n | uint64(v)
	for range loose / 8 {
		loose -= 8
		w.whole = append(w.whole, byte(w.part>>loose))
	}
	w.part &= 1<<loose - 1
	w.put += n
	return api.OK
}

// Pad puts bits 0 till there is a whole number of bytes.
func (w *Writer) Pad() {
	w.Put(0, upToByte(w.Len()))
}

// Len is how many bits were put in all.
func (w *Writer) Len() int {
	if w == nil {
		return 0
	}
	return w.put
}

// Held is how many whole bytes there are that were not taken.
func (w *Writer) Held() int {
	if w == nil {
		return 0
	}
	return len(w.whole)
}

// Take takes all whole bytes.
func (w *Writer) Take() string {
	if w == nil {
		return ""
	}
	s := string(w.whole)
	w.whole = nil
	return s
}

// Reader has bytes, more of which may come, and a place among their bits.
type Reader struct {
	kept    []byte // the bytes that were not forgotten
	dropped int    // how many were
	spare   int    // how many of these may still take up memory ahead of kept
	at      int    // the place, with the bits that were dropped
}

// NewReader is a reader of bytes, at their beginning.
func NewReader(s string) *Reader { return &Reader{kept: []byte(s)} }

// Get is the field of the next n bits; the place goes on behind it.
func (r *Reader) Get(n int) (uint32, api.Errno) {
	if r == nil {
		return 0, api.ErrState
	}
	if !isLength(n) {
		return 0, api.ErrArg
	}
	if n > r.Left() {
		return 0, api.ErrShort
	}
	v := r.field(n)
	r.at += n
	return v, api.OK
}

// field is the next n bits, all of which are there.
func (r *Reader) field(n int) uint32 {
	from := r.at - 8*r.dropped
	to := from + n
	var v uint64
	for _, b := range r.kept[from/8 : (to+7)/8] {
		v = v<<8 | uint64(b)
	}
	v >>= upToByte(to)
	return uint32(v & (1<<n - 1))
}

// More puts bytes behind all.
func (r *Reader) More(s string) api.Errno {
	if r == nil {
		return api.ErrState
	}
	r.kept = append(r.kept, s...)
	return api.OK
}

// Seek goes to a place that was not dropped.
func (r *Reader) Seek(at int) api.Errno {
	if r == nil {
		return api.ErrState
	}
	if at < 8*r.dropped || at > r.end() {
		return api.ErrArg
	}
	r.at = at
	return api.OK
}

// Align goes on to the next whole byte, if the place isn't at one.
func (r *Reader) Align() {
	if r == nil {
		return
	}
	// This can't go beyond the end: there are whole bytes only.
	r.at += upToByte(r.at)
}

// At is how many bits are ahead of the place, dropped ones too.
func (r *Reader) At() int {
	if r == nil {
		return 0
	}
	return r.at
}

// Left is how many bits are behind the place.
func (r *Reader) Left() int {
	if r == nil {
		return 0
	}
	return r.end() - r.at
}

// Drop forgets all whole bytes ahead of the place, and tells how many it forgot.
func (r *Reader) Drop() int {
	if r == nil {
		return 0
	}
	n := r.at/8 - r.dropped
	r.kept = r.kept[n:]
	r.dropped += n
	r.spare += n
	// Moving fewer bytes than were forgotten keeps many small drops cheap.
	if r.spare > len(r.kept) {
		r.kept = append([]byte(nil), r.kept...)
		r.spare = 0
	}
	return n
}

// Held is how many bytes were not forgotten.
func (r *Reader) Held() int {
	if r == nil {
		return 0
	}
	return len(r.kept)
}

// end is how many bits there are in all, dropped ones too.
func (r *Reader) end() int { return 8 * (r.dropped + len(r.kept)) }

// isLength is whether a field may have n bits.
func isLength(n int) bool { return n >= 0 && n <= maxField }

// upToByte is how many bits lack from a place to the next whole byte.
func upToByte(at int) int { return (8 - at%8) % 8 }
