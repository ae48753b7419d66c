"""Films and their written form, for several tests."""

from support import colour_bytes, low

SIGN = list(b"FRM1\n")


def frame(indexes, x=0, y=0, width=None, height=1, own=None, clear=-1, after=0, delay=1):
    """A frame; it has one row unless a height is given."""
    width = len(indexes) // height if width is None else width
    return x, y, width, height, own, clear, after, delay, tuple(indexes)


def film(width, height, *frames, ground=0, colours=(10, 11, 12, 13), turns=0):
    return width, height, ground, tuple(colours), turns, frames


def block(kind, data, length=None):
    return [ord(kind)] + low(len(data) if length is None else length, 4) + list(data)


def frame_bytes(data, x=0, y=0, width=1, height=1, flags=0, after=0, clear=0, delay=0, method=0, count=0):
    """The bytes of a frame; data begins with its own colours, if it has any."""
    return [x, y, width, height, flags, after, clear] + low(delay, 2) + [method, count] + list(data)


def film_bytes(width, height, *blocks, ground=0, colours=(10, 11, 12, 13), count=None):
    count = len(colours) if count is None else count
    found = SIGN + [width, height] + colour_bytes(ground) + [count] + colour_bytes(*colours)
    return found + [byte for part in blocks for byte in part]


def drawn_frame(source, most=4):
    width, height = source.randint(0, most), source.randint(0, most)
    own = tuple(source.randint(0, 16777215) for _ in range(source.randint(0, 4)))
    indexes = tuple(source.choice((0, 1, 2, 3, 255)) for _ in range(width * height))
    return (
        source.randint(0, 5), source.randint(0, 5), width, height, source.choice((None, own)),
        source.choice((-1, 0, 1, 255)), source.randint(0, 2), source.choice((0, 0, 1, 65535)), indexes,
    )


def drawn_film(source, most=6):
    colours = tuple(source.randint(0, 16777215) for _ in range(source.randint(0, 4)))
    frames = tuple(drawn_frame(source) for _ in range(source.randint(0, most)))
    turns = source.choice((0, 1, 65535))
    return source.randint(1, 6), source.randint(1, 6), source.randint(0, 16777215), colours, turns, frames
