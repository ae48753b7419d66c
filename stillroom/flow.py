"""Words in lines (point 134)."""


def break_lines(advances, space, width):
    """The list of lines, tuples (places, end), for words whose runes have these advances."""
    width = max(width, 1)
    lines = []
    places = []
    end = 0
    for word, parts in enumerate(advances):
        if places and end + space + sum(parts) > width:
            lines.append((tuple(places), end))
            places, end = [], 0
        elif places:
            end += space
        for rune, part in enumerate(parts):
            if places and end + part > width:
                lines.append((tuple(places), end))
                places, end = [], 0
            places.append((word, rune, end))
            end += part
    if places:
        lines.append((tuple(places), end))
    return lines
