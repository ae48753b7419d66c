"""Values of folios, and their written form, for several tests."""

from support import drawn_bytes

NONE = ("none",)
WHITE = (0, 9, 10, 12, 13, 32)
SIGNS = tuple(b"()<>[]{}/%#@")


def text(data):
    return "text", tuple(data)


def name(data):
    return "name", tuple(data)


def number(found):
    return "int", found


def items(*found):
    return "list", found


def pairs(*found):
    return tuple((tuple(word), value) for word, value in found)


def dict_of(*found):
    return "dict", pairs(*found)


def stream(data, *found):
    return "stream", pairs(*found), tuple(data)


def nested(kind, levels, inner=None):
    """A value of this depth; the innermost list, dict or stream has the inner value, if any."""
    value = inner
    for _ in range(levels):
        found = () if value is None else (value,)
        keyed = pairs(*[(b"A", item) for item in found])
        value = {"list": items(*found), "dict": ("dict", keyed), "stream": ("stream", keyed, ())}[kind]
    return value


def chained(count, value=("int", 7)):
    """The objects of a book: so many references, each to the next object, and a value behind them."""
    objects = [(at, ("ref", at + 1)) for at in range(1, count + 1)]
    return tuple(objects + [(count + 1, value)])


def written_name(data):
    signs = b""
    for byte in data:
        plain = 33 <= byte <= 126 and byte != 126 and byte not in SIGNS
        signs += bytes([byte]) if plain else b"~%02x" % byte
    return b"/" + signs


def written_text(data):
    signs = b""
    for byte in data:
        if byte in b"()\\":
            signs += b"\\" + bytes([byte])
        else:
            signs += bytes([byte]) if 32 <= byte <= 126 else b"\\%02x" % byte
    return b"(" + signs + b")"


def written_dict(found):
    return b"<<" + b" ".join(written_name(word) + b" " + written(value) for word, value in found) + b">>"


def written(value):
    """A value in the form of point 69."""
    kind = value[0]
    if kind == "none":
        return b"none"
    if kind == "bool":
        return b"true" if value[1] else b"false"
    if kind == "int":
        return b"%d" % value[1]
    if kind == "ref":
        return b"@%d" % value[1]
    if kind == "name":
        return written_name(value[1])
    if kind == "text":
        return written_text(value[1])
    if kind == "list":
        return b"[" + b" ".join(written(item) for item in value[1]) + b"]"
    if kind == "dict":
        return written_dict(value[1])
    return written_dict(value[1]) + b"{%d}" % len(value[2]) + bytes(value[2]) + b"{}"


def drawn_value(source, room):
    kind = source.choice(("none", "bool", "int", "name", "text", "ref", "list", "dict", "stream")[:9 if room else 6])
    data = tuple(drawn_bytes(source, 6))
    plain = {
        "none": ("none",), "bool": ("bool", source.randint(0, 1)), "name": ("name", data), "text": ("text", data),
        "int": ("int", source.randint(-2147483647, 2147483647)), "ref": ("ref", source.randint(1, 9999)),
    }
    if kind in plain:
        return plain[kind]
    values = tuple(drawn_value(source, room - 1) for _ in range(source.randint(0, 3)))
    if kind == "list":
        return "list", values
    keys = sorted({tuple(drawn_bytes(source, 3)) for _ in values})
    if kind == "dict":
        return "dict", tuple(zip(keys, values))
    return "stream", tuple(zip(keys, values)), data + source.choice(((), tuple(b"{}"), tuple(b"#1 5")))


def drawn_book(source):
    numbers = sorted({source.choice((1, 2, 9, 9999, source.randint(1, 9999))) for _ in range(3)})
    return tuple((at, drawn_value(source, 4)) for at in numbers), source.choice(numbers + [0])
