// Package crc is layer 1: a sum of bytes that finds each short burst, and seals; see shared/doc/01-crc.md.
package crc

import "strings"

// every has a 1 in all places: the number begins so, and is turned there in the end.
const every = 1<<32 - 1

// sealLen is how many bytes a seal lays behind those that it seals.
const sealLen = 4

// fours tells for each four bits where the number is turned when they have left it.
var fours = [16]uint32{
	0x00000000, 0x1db71064, 0x3b6e20c8, 0x26d930ac,
	0x76dc4190, 0x6b6b51f4, 0x4db26158, 0x5005713c,
	0xedb88320, 0xf00f9344, 0xd6d6a3e8, 0xcb61b38c,
	0x9b64c2b0, 0x86d3d2d4, 0xa00ae278, 0xbdbdf21c,
}

// Sum is the sum of the bytes of s.
func Sum(s string) uint32 { return More(0, s) }

// Seal is s with its sum behind it.
func Seal(s string) string { return s + tail(Sum(s)) }

// Open is what s is the seal of, and whether it is one.
func Open(s string) (string, bool) {
	n := len(s) - sealLen
	if n < 0 || s[n:] != tail(Sum(s[:n])) {
		return "", false
	}
	// Copied, for an answer shares no memory with what was handed in.
	return strings.Clone(s[:n]), true
}

// More is the sum of some bytes and of s behind them, if sum is that of these.
func More(sum uint32, s string) uint32 {
	// What a sum has turned in the end is turned back, so that one goes on where it ended.
	n := turned(sum, every)
	for i := range len(s) {
		n = past(n, s[i])
	}
	return turned(n, every)
}

// past is the number behind one byte more.
func past(n uint32, b byte) uint32 {
	n ^= uint32(b)
	low := fours[n&15]
	// What the low four bits turn reaches the high four before these leave the number.
	high := fours[(n>>4^low)&15]
	return turned(n>>8, low>>4, high)
}

// turned is the number with its bits turned in all places in which a mask has a 1, for each mask.
func turned(n uint32, masks ...uint32) uint32 {
	for _, m := range masks {
		n ^= m
	}
	return n
}

// tail is the sum as bytes, the lowest first.
func tail(sum uint32) string {
	var l [sealLen]byte
	for i := range len(l) {
		l[i] = byte(sum >> (8 * i))
	}
	return string(l[:])
}
