"""Signs and numbers at places of a byte list, and its lines."""


def stands(data, at, sign):
    """True if the bytes of the sign, a tuple, stand at the place."""
    return tuple(data[at:at + len(sign)]) == sign


def read_low_first(data):
    """The number of some bytes, of which the first one is the lowest."""
    number = 0
    for byte in reversed(data):
        number = number * 256 + byte
    return number


def write_low_first(number, count):
    """The count bytes of a number, the lowest one first."""
    return [(number >> (8 * at)) & 255 for at in range(count)]


def cut(data, byte):
    """The list of the pieces of a byte list between the bytes of this value."""
    pieces = []
    begin = 0
    for at, found in enumerate(data):
        if found == byte:
            pieces.append(data[begin:at])
            begin = at + 1
    pieces.append(data[begin:])
    return pieces
