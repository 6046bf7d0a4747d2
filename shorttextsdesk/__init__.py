"""Short texts: texts of at most 31 bytes; the calls stand in shorttextsdesk.texts."""
