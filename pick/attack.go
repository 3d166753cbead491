package pick

import "reedpipe/api"

const (
	parts     = 8
	louder    = 8
	audible   = 1 << 20
	maxSample = 1<<15 - 1
	minSample = -1 << 15
)

// Attack tells whether samples begin loud.
func Attack(pcm []int) (bool, api.Errno) {
	if len(pcm) != api.Long {
		return false, api.ErrMany
	}
	var energies [parts]int
	for n, v := range pcm {
		if v < minSample || v > maxSample {
			return false, api.ErrArg
		}
		energies[n*parts/api.Long] += v * v
	}
	sum := energies[0]
	for n := 1; n < parts; n++ {
		if n*energies[n] > louder*sum+n*audible {
			return true, api.OK
		}
		sum += energies[n]
	}
	return false, api.OK
}

// Seq is the next sequence, where samples begin loud now, or next.
func Seq(was uint8, now, next bool) (uint8, api.Errno) {
	switch was {
	case api.OnlyLong, api.Stop:
		if next {
			return api.Start, api.OK
		}
		return api.OnlyLong, api.OK
	case api.Start, api.Shorts:
		if now || next {
			return api.Shorts, api.OK
		}
		return api.Stop, api.OK
	}
	return 0, api.ErrArg
}
