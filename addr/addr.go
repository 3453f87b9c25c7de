// Package addr answers for runs of bytes: whether one fits, and which frames it lies in. See DOC.md, chapter 1.
package addr

import (
	"caisson/api"
)

// memorySize is that of the largest memory; a run is split within it, whatever memory it is meant for.
const memorySize = api.MaxFrames * api.FrameSize

// May tells whether n bytes from at on lie within size bytes, none of the three below 0.
func May(at int, n int, size int) bool {
	// size less at is asked, and not at plus n, since that sum may overflow;
	// at from 0 to size leaves no size below 0.
	return at >= 0 && n >= 0 && at <= size && n <= size-at
}

// Split answers the pieces of n bytes from at on, one a frame.
func Split(at int, n int) ([]api.Piece, api.Errno) {
	if !May(at, n, memorySize) {
		return nil, api.ErrAddrForm
	}
	var pieces []api.Piece
	for n > 0 {
		p := firstPiece(at, n)
		pieces = append(pieces, p)
		at, n = at+p.Len, n-p.Len
	}
	return pieces, api.OK
}

// firstPiece is what of n bytes from at on lies in at's frame.
func firstPiece(at int, n int) api.Piece {
	off := at % api.FrameSize
	return api.Piece{Frame: at / api.FrameSize, Off: off, Len: min(n, api.FrameSize-off)}
}
