package crc

import "math/bits"

// matrix is a linear map of registers: at i stands what becomes of bit i.
type matrix [32]uint32

// oneByte tells what becomes of registers by eight bits 0.
func oneByte() matrix {
	var m matrix
	for i := range m {
		m[i] = step(1 << i)
	}
	return m.squared().squared().squared()
}

// of tells what becomes of the register.
func (m matrix) of(register uint32) uint32 {
	sum := uint32(0)
	for ; register != 0; register &= register - 1 {
		sum ^= m[bits.TrailingZeros32(register)]
	}
	return sum
}

// squared tells what m does if it is done twice.
func (m matrix) squared() matrix {
	var twice matrix
	for i, column := range m {
		twice[i] = m.of(column)
	}
	return twice
}
