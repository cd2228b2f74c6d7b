// Package value is layer 1: see shared/doc/01-value.md. It checks values and types, orders values, and writes and reads their texts and keys.
package value

import "deltaworks/api"

// Type checks a type (P1.1).
func Type(t api.Type) api.Errno {
	if !rightType(t) {
		return api.ErrArg
	}
	return api.OK
}

// Check checks a value (P1.1).
func Check(v api.Value) api.Errno {
	_, e := Size(v)
	return e
}

// Is reports whether a value is of a type (P1.2).
func Is(v api.Value, t api.Type) bool {
	return Check(v) == api.OK && rightType(t) && matches(v, t)
}

// Size returns how many values are in a value (P1.2).
func Size(v api.Value) (int, api.Errno) {
	n := measure(v, valueParts, rightValue, api.ValueMost, api.ValueDeep)
	if n == 0 {
		return 0, api.ErrArg
	}
	return n, api.OK
}

// Compare returns which of two values is ahead (P1.3).
func Compare(a, b api.Value) (int, api.Errno) {
	if Check(a) != api.OK || Check(b) != api.OK {
		return 0, api.ErrArg
	}
	return order(a, b), api.OK
}

// Least returns the first value of a type (P1.4).
func Least(t api.Type) (api.Value, api.Errno) {
	if !rightType(t) {
		return api.Value{}, api.ErrArg
	}
	return least(t), api.OK
}

// Text returns the text of a value (P1.5).
func Text(v api.Value) (string, api.Errno) {
	if Check(v) != api.OK {
		return "", api.ErrArg
	}
	return string(form(&v).text(nil)), api.OK
}

// Parse returns the value of a text (P1.6).
func Parse(s string) (api.Value, api.Errno) {
	return read(s, api.ValueBytes, (*source).valueOfText, Check)
}

// TypeText returns the text of a type (P1.5).
func TypeText(t api.Type) (string, api.Errno) {
	if !rightType(t) {
		return "", api.ErrArg
	}
	return string(typeText(nil, t)), api.OK
}

// TypeParse returns the type of a text (P1.6).
func TypeParse(s string) (api.Type, api.Errno) {
	return read(s, api.TypeBytes, (*source).typeOfText, Type)
}

// Key returns the key of a value (P1.5).
func Key(v api.Value) (string, api.Errno) {
	if Check(v) != api.OK {
		return "", api.ErrArg
	}
	return string(form(&v).key(nil)), api.OK
}

// OfKey returns the value of a key (P1.6).
func OfKey(s string) (api.Value, api.Errno) {
	return read(s, api.KeyBytes, (*source).valueOfKey, Check)
}
