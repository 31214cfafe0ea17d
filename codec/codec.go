// Package codec turns numbers, lists of strings and lists of integers into bytes, and computes a checksum.
//
// Each value has one form in bytes, and the readers refuse every other one: so objects with the same code are the same, and bytes that were damaged do not pass for another form of a value.
package codec
