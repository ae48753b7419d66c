"""Whether values of any kind have a form."""


def is_integer_from(value, low, high):
    """True if the value is an integer, no bool, and from low to high."""
    return isinstance(value, int) and not isinstance(value, bool) and low <= value <= high


def is_byte_tuple(value):
    """True if the value is a tuple of bytes."""
    return isinstance(value, tuple) and all([is_integer_from(byte, 0, 255) for byte in value])


def is_tuple_of(value, length):
    """True if the value is a tuple of so many items."""
    return isinstance(value, tuple) and len(value) == length
